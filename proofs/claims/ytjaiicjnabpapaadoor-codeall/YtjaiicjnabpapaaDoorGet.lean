/-
  What package code's Get answers: the program that bytes are, if Put makes just these bytes of it.
-/
import Derived.Test.YtjaiicjnabpapaaDoorRead3
namespace Go.Proofs.YtjaiicjnabpapaaDoor
open Go.RowKit

theorem SlF.kept {w w' : World} {v : Value} {fs : List (List In)} (h : SlF w v fs) (hb : Below w.heap.size w w') : SlF w' v fs := h.still (still_of_below hb)
theorem rdP_small (s : List UInt8) (p : Nat) : (rdP s p).fs.length ≤ 1000000 ∧ ∀ f ∈ (rdP s p).fs, f.length ≤ 1000000 := by
  constructor
  · have := (rdC_eq s (p + 4)).2
    simp [rdP]
    omega
  · intro f hf
    simp only [rdP, List.mem_map] at hf
    obtain ⟨k, -, rfl⟩ := hf
    have := (rdC_eq s (rdFs s (p + 5) k)).2
    simp [rdF]
    omega
theorem putE_cases (p : Pr) : putE p = 0 ∨ putE p = 1 ∨ putE p = 2 := by
  unfold putE
  split
  · simp
  · split <;> simp
theorem str_eq {a b : ByteArray} (h : a = b) : (a.toList == b.toList) = true := by rw [h]; simp
theorem str_ne {a b : ByteArray} (h : ¬ a = b) : (a.toList == b.toList) = false := by
  rw [beq_eq_false_iff_ne]
  intro e
  exact h (WideShapes.bytes_inj (by simpa [ByteArray.toList_eq] using e))
set_option maxHeartbeats 1000000 in
theorem Get_raw (s : ByteArray) (w : World) (hT : Tab w) :
    Calls Tryd.prog 14 #[.string s] w fun e w' => Below w.heap.size w w' ∧
      ((putE (rdP s.data.toList 3) = 0 ∧ strB (putT (rdP s.data.toList 3)) = s ∧ ∃ fv, e = .returned (.tuple #[.agg #[fv, .int .i64 (rdP s.data.toList 3).futs, .int .i64 (rdP s.data.toList 3).depth, .int .i64 (rdP s.data.toList 3).fuel], .int .i64 0]) ∧ SlF w' fv (rdP s.data.toList 3).fs) ∨
       (¬ (putE (rdP s.data.toList 3) = 0 ∧ strB (putT (rdP s.data.toList 3)) = s) ∧ e = .returned (.tuple #[.agg #[.slice none 0 0, .int .i64 0, .int .i64 0, .int .i64 0], .int .i64 4]))) := by
  have hg0 : ReadAt ((w.alloc (.cells #[.slice none 0 0, .int .i64 0, .int .i64 0, .int .i64 0] 24)).alloc (.cells #[.string s, .int .i64 3] 55)) (w.heap.size + 1) s 3 := heap_alloc2_new _ _ _
  have hr0 : ((w.alloc (.cells #[.slice none 0 0, .int .i64 0, .int .i64 0, .int .i64 0] 24)).alloc (.cells #[.string s, .int .i64 3] 55)).heap[w.heap.size]? = some (.cells #[.slice none 0 0, .int .i64 0, .int .i64 0, .int .i64 0] 24 (0, 0)) := heap_alloc2_old _ _ _
  have hb0 : Below w.heap.size w ((w.alloc (.cells #[.slice none 0 0, .int .i64 0, .int .i64 0, .int .i64 0] 24)).alloc (.cells #[.string s, .int .i64 3] 55)) := ((Below.refl _ _).alloc (Nat.le_refl _) _).alloc (by simp) _
  generalize hP : rdP s.data.toList 3 = P at *
  have HP : Hid (rdP s.data.toList 3 = P) := hP
  clear hP
  go_enter Tryd.func14, Tryd.ntmps14
  go_wp2_with fail
  refine (program_any _ 3 s _ hg0 (by omega)).mono ?_
  rintro e w1 ⟨fv, rfl, hF, hgr⟩
  rw [HP.out] at hF
  rw [HP.out]
  have hFr := hF
  replace hF := hF.now
  have hb1 : Below w.heap.size w w1 := hb0.trans ⟨hgr.os, hgr.tape, hgr.output, hgr.size, fun k hk => hgr.block k (by simp; omega) (by simp; omega)⟩
  have hr1 := (hgr.block _ (lt_of_block hr0) (by simp)).trans hr0
  clear hgr hg0 hr0 hb0
  have hF1 := hF
  obtain ⟨ad, cap, rfl, -⟩ := hF
  have hz1 := lt_of_block hr1
  have hba : Below w1.heap.size w1 (w1.alloc (.cells #[.slice ad P.fs.length cap, .int .i64 P.futs, .int .i64 P.depth, .int .i64 P.fuel] 24)) := (Below.refl _ _).alloc (Nat.le_refl _) _
  have hT1 := (hT.below hb1).below hba
  have hF2 := hF1.kept hba
  have hlen : P.fs.length ≤ 1000000 ∧ ∀ f ∈ P.fs, f.length ≤ 1000000 := by rw [← HP.out]; exact rdP_small _ _
  have hx : (w1.alloc (.cells #[.slice ad P.fs.length cap, .int .i64 P.futs, .int .i64 P.depth, .int .i64 P.fuel] 24)).heap[w1.heap.size]? = some (.cells #[.slice ad P.fs.length cap, .int .i64 P.futs, .int .i64 P.depth, .int .i64 P.fuel] 24 (0, 0)) := heap_alloc_new _ _
  have hr2 := (hba.block _ hz1).trans hr1
  go_wp2_with fail
  refine (Put_any P _ _ hT1 hF2 hlen.1 hlen.2).mono ?_
  rintro e w2 ⟨rfl, hb2⟩
  have hr3 := (hb2.block _ (lt_of_block hr2)).trans hr2
  have hx3 := (hb2.block _ (lt_of_block hx)).trans hx
  have hFr3 : SlFrom (w.heap.size + 1 + 1) w2 (.slice ad P.fs.length cap) P.fs := (SlFrom.kept (by simpa using hFr) (by have := hb2.size; simp at this; omega) fun b _ h2 => (hb2.block b (by simp; omega)).trans (hba.block b h2))
  have hb3 : Below w.heap.size w w2 := (hb1.trans (hba.mono hb1.size)).trans (hb2.mono (by have := hb1.size; simp; omega))
  clear hT1 hF2 hF1 hba hx hr2 hb2 hFr
  have x0 := cell_of_row w2 _ 0 _ _ _ hx3
  have x1 := cell_of_row w2 _ 1 _ _ _ hx3
  have x2 := cell_of_row w2 _ 2 _ _ _ hx3
  have x3 := cell_of_row w2 _ 3 _ _ _ hx3
  have r0 := cell_of_row w2 _ 0 _ _ _ hr3
  have r1 := cell_of_row w2 _ 1 _ _ _ hr3
  have r2 := cell_of_row w2 _ 2 _ _ _ hr3
  have r3 := cell_of_row w2 _ 3 _ _ _ hr3
  have f0 := frozen_of_row w2 _ 0 _ _ hr3
  have f1 := frozen_of_row w2 _ 1 _ _ hr3
  have f2 := frozen_of_row w2 _ 2 _ _ hr3
  have f3 := frozen_of_row w2 _ 3 _ _ hr3
  simp at x0 x1 x2 x3 r0 r1 r2 r3
  have hset : ∀ a b c d : Value, Below w.heap.size w ((((w2.setCell ⟨w.heap.size, 0, none⟩ a).setCell ⟨w.heap.size, 1, none⟩ b).setCell ⟨w.heap.size, 2, none⟩ c).setCell ⟨w.heap.size, 3, none⟩ d) := fun a b c d => (((hb3.setCell (p := ⟨w.heap.size, 0, none⟩) (Nat.le_refl _) a).setCell (p := ⟨w.heap.size, 1, none⟩) (Nat.le_refl _) b).setCell (p := ⟨w.heap.size, 2, none⟩) (Nat.le_refl _) c).setCell (p := ⟨w.heap.size, 3, none⟩) (Nat.le_refl _) d
  have HS : Hid (∀ a b c d : Value, Below w.heap.size w ((((w2.setCell ⟨w.heap.size, 0, none⟩ a).setCell ⟨w.heap.size, 1, none⟩ b).setCell ⟨w.heap.size, 2, none⟩ c).setCell ⟨w.heap.size, 3, none⟩ d)) := hset
  clear hset
  rcases putE_cases P with he | he | he
  · have e1 : (putE P == 0) = true := by simp [he]
    by_cases hs : strB (putT P) = s
    · have ht := str_eq hs
      go_wp2_with fail
      refine bodyPost_ret (v := .tuple #[.agg #[.slice ad P.fs.length cap, .int .i64 P.futs, .int .i64 P.depth, .int .i64 P.fuel], .int .i64 0]) (by simp [results, Tryd.results14, go_sem, r0, r1, r2, r3]) rfl ⟨HS.out _ _ _ _, .inl ⟨he, hs, _, rfl, ?_⟩⟩
      refine hFr3 _ fun b hb1 hb2 => ?_
      rw [Below.heap_setCell _ _ _ _ (by simp; omega), Below.heap_setCell _ _ _ _ (by simp; omega), Below.heap_setCell _ _ _ _ (by simp; omega), Below.heap_setCell _ _ _ _ (by simp; omega)]
    · have ht := str_ne hs
      go_wp2_with fail
      exact bodyPost_ret (v := .tuple #[.agg #[.slice none 0 0, .int .i64 0, .int .i64 0, .int .i64 0], .int .i64 4]) (by simp [results, Tryd.results14, go_sem, r0, r1, r2, r3]) rfl ⟨HS.out _ _ _ _, .inr ⟨fun h => hs h.2, rfl⟩⟩
  · clear x0 x1 x2 x3
    go_wp2_with fail
    exact bodyPost_ret (v := .tuple #[.agg #[.slice none 0 0, .int .i64 0, .int .i64 0, .int .i64 0], .int .i64 4]) (by simp [results, Tryd.results14, go_sem, r0, r1, r2, r3]) rfl ⟨HS.out _ _ _ _, .inr ⟨fun h => by rw [he] at h; omega, rfl⟩⟩
  · clear x0 x1 x2 x3
    go_wp2_with fail
    exact bodyPost_ret (v := .tuple #[.agg #[.slice none 0 0, .int .i64 0, .int .i64 0, .int .i64 0], .int .i64 4]) (by simp [results, Tryd.results14, go_sem, r0, r1, r2, r3]) rfl ⟨HS.out _ _ _ _, .inr ⟨fun h => by rw [he] at h; omega, rfl⟩⟩
end Go.Proofs.YtjaiicjnabpapaaDoor
