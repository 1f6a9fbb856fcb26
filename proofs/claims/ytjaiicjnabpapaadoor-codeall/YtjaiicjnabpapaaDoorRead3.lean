/-
  What package code's reader answers: programs out of bytes.
-/
import Derived.Test.YtjaiicjnabpapaaDoorRead2
namespace Go.Proofs.YtjaiicjnabpapaaDoor
open Go.RowKit

/-- where the k-th function begins, of those that begin at p -/
def rdFs (s : List UInt8) (p : Nat) : Nat → Nat
  | 0 => p
  | k + 1 => rdFN s (rdFs s p k)
theorem rdFs_le (s : List UInt8) (p k : Nat) : rdFs s p k ≤ p + 3316 * k := by
  induction k with
  | zero => simp [rdFs]
  | succ k ih =>
    have h1 := rdNs_le s (rdFs s p k + 1) (rdC s (rdFs s p k))
    have h2 := (rdC_eq s (rdFs s p k)).2
    simp only [rdFs, rdFN]
    omega
/-- the program whose numbers begin at p -/
def rdP (s : List UInt8) (p : Nat) : Pr := ⟨(List.range (rdC s (p + 4))).map fun k => rdF s (rdFs s (p + 5) k), takeV s p 1, takeV s (p + 1) 1, takeV s (p + 2) 2⟩
/-- a row of functions, the first k of which are told -/
structure RowF (w : World) (F n k : Nat) (s : List UInt8) (p : Nat) (cur : Array Value) : Prop where
  block : w.heap[F]? = some (.cells cur 42 (0, 0))
  size : cur.size = n
  told : ∀ j, j < k → ∃ G c, cur[j]? = some (.slice (some ⟨G, 0, none⟩) (rdC s (rdFs s p j)) (rdC s (rdFs s p j))) ∧ F < G ∧ RowK w G (rdC s (rdFs s p j)) (rdC s (rdFs s p j)) (fun i => rdI s (rdNs s (rdFs s p j + 1) i)) c
theorem RowF.kept {w w' : World} {F n k : Nat} {s : List UInt8} {p : Nat} {cur : Array Value} (h : RowF w F n k s p cur) (hb : ∀ b, F ≤ b → b < w.heap.size → w'.heap[b]? = w.heap[b]?) : RowF w' F n k s p cur :=
  ⟨(hb F (Nat.le_refl _) (lt_of_block h.block)).trans h.block, h.size, fun j hj => by
    obtain ⟨G, c, h1, h2, h3⟩ := h.told j hj
    exact ⟨G, c, h1, h2, h3.kept (hb G (Nat.le_of_lt h2) h3.lt)⟩⟩
theorem RowF.slF {w : World} {F n : Nat} {s : List UInt8} {p : Nat} {cur : Array Value} (h : RowF w F n n s p cur) : SlF w (.slice (some ⟨F, 0, none⟩) n n) ((List.range n).map fun k => rdF s (rdFs s p k)) := by
  refine ⟨some ⟨F, 0, none⟩, n, by simp, fun k hk => ?_⟩
  have hk' : k < n := by simpa using hk
  obtain ⟨G, c, h1, h2, h3⟩ := h.told k hk'
  refine ⟨F, 0, .slice (some ⟨G, 0, none⟩) (rdC s (rdFs s p k)) (rdC s (rdFs s p k)), rfl, ?_, ?_⟩
  · rw [Nat.zero_add, cell_of_row w F k cur _ _ h.block, h1]
  · have := h3.slI
    simpa [rdF] using this
theorem RowF.cell {w : World} {F n k : Nat} {s : List UInt8} {p : Nat} {cur : Array Value} (h : RowF w F n k s p cur) (j : Nat) (hj : j < n) : ∃ u, w.cell? ⟨F, j, none⟩ = some u := by
  have hj2 : j < cur.size := by rw [h.size]; exact hj
  exact ⟨cur[j], by rw [cell_of_row w F j cur _ _ h.block, Array.getElem?_eq_getElem hj2]⟩
theorem RowF.store {w : World} {F n k : Nat} {s : List UInt8} {p : Nat} {cur : Array Value} (h : RowF w F n k s p cur) (hk : k < n) {G : Nat} {c : Array Value} (hG : F < G)
    (hR : RowK w G (rdC s (rdFs s p k)) (rdC s (rdFs s p k)) (fun i => rdI s (rdNs s (rdFs s p k + 1) i)) c) :
    RowF (w.setCell ⟨F, k, none⟩ (.slice (some ⟨G, 0, none⟩) (rdC s (rdFs s p k)) (rdC s (rdFs s p k)))) F n (k + 1) s p (cur.setIfInBounds k (.slice (some ⟨G, 0, none⟩) (rdC s (rdFs s p k)) (rdC s (rdFs s p k)))) := by
  refine ⟨heap_setCell_same w F k cur _ _ h.block, by simp [h.size], fun j hj => ?_⟩
  rcases (by omega : j < k ∨ j = k) with hlt | rfl
  · obtain ⟨G', c', h1, h2, h3⟩ := h.told j hlt
    exact ⟨G', c', by rw [Array.getElem?_setIfInBounds, if_neg (by omega)]; exact h1, h2, h3.kept (Below.heap_setCell _ _ _ _ (by simp; omega))⟩
  · exact ⟨G, c, by rw [Array.getElem?_setIfInBounds, if_pos rfl, if_pos (by rw [h.size]; exact hk)], hG, hR.kept (Below.heap_setCell _ _ _ _ (by simp; omega))⟩
theorem infoSl : (Tryd.prog.info? 42).map (fun i => (i.zero, i.size, i.bytes)) = some (some (.slice none 0 0), 1, 24) := by kernel_rfl
def nilRow (n : Nat) : Array Value := madeCells #[.slice none 0 0] (n * 1)
theorem nilRow_size (n : Nat) : (nilRow n).size = n := by rw [nilRow, size_madeCells]; omega
theorem make_fns (n : Nat) (h : n ≤ 1000) (w : World) : (Instr.makeSlice 22 (.int .i64 (n : Int)) (.int .i64 (n : Int))).run Tryd.prog w = .ok (.slice (some ⟨w.heap.size, 0, none⟩) n n) (w.alloc (.cells (nilRow n) 42)) := by
  obtain ⟨i0, hi, hz0, hz1, hz2⟩ := info_parts infoSl
  have hr := run_make (P := Tryd.prog) w 22 42 i0 _ Tryd.underlying22 hi hz0 .i64 .i64 n n (by omega) (Int.le_refl _) (by rw [hz2]; omega) (by omega)
  simp only [Int.toNat_natCast, hz1] at hr
  exact hr
/-- what lies in memory while a program is read: its two boxes, the reader -/
structure PB (w wr : World) (g : Nat) (s : ByteArray) (q : Nat) (fv : Value) (a b c : Int) : Prop where
  res : wr.heap[w.heap.size]? = some (.cells #[.slice none 0 0, .int .i64 0, .int .i64 0, .int .i64 0] 24 (0, 0))
  box : wr.heap[w.heap.size + 1]? = some (.cells #[fv, .int .i64 a, .int .i64 b, .int .i64 c] 24 (0, 0))
  read : ReadAt wr g s q
  grown : w.grownBy wr (some g)
theorem PB.kept {w wr w2 : World} {g : Nat} {s : ByteArray} {q q' : Nat} {fv : Value} {a b c : Int} (h : PB w wr g s q fv a b c) (hg : g < w.heap.size) (h2 : wr.grownBy w2 (some g)) (hr : ReadAt w2 g s q') : PB w w2 g s q' fv a b c :=
  ⟨(h2.block _ (lt_of_block h.res) (by simp; omega)).trans h.res, (h2.block _ (lt_of_block h.box) (by simp; omega)).trans h.box, hr, grown_trans h.grown h2⟩
theorem PB.alloc {w wr : World} {g : Nat} {s : ByteArray} {q : Nat} {fv : Value} {a b c : Int} (h : PB w wr g s q fv a b c) (hg : g < w.heap.size) (o : Obj) : PB w (wr.alloc o) g s q fv a b c :=
  h.kept hg (World.grownBy_alloc _ _ _) (h.read.kept (Below.heap_alloc _ _ _ h.read.lt))
theorem PB.set {w wr : World} {g : Nat} {s : ByteArray} {q : Nat} {fv : Value} {a b c : Int} (h : PB w wr g s q fv a b c) (hg : g < w.heap.size) (j : Nat) (u : Value) {fv' : Value} {a' b' c' : Int} (he : (#[fv, .int .i64 a, .int .i64 b, .int .i64 c] : Array Value).setIfInBounds j u = #[fv', .int .i64 a', .int .i64 b', .int .i64 c']) : PB w (wr.setCell ⟨w.heap.size + 1, j, none⟩ u) g s q fv' a' b' c' :=
  ⟨(Below.heap_setCell _ _ _ _ (by simp)).trans h.res, by rw [heap_setCell_same _ _ _ _ _ _ h.box, he], h.read.kept (Below.heap_setCell _ _ _ _ (by simp; omega)), grown_setCell' h.grown (by simp) _⟩
theorem PB.far {w wr : World} {g : Nat} {s : ByteArray} {q : Nat} {fv : Value} {a b c : Int} (h : PB w wr g s q fv a b c) (hg : g < w.heap.size) {p : Addr} (hp : w.heap.size + 1 < p.block) (u : Value) : PB w (wr.setCell p u) g s q fv a b c :=
  ⟨(Below.heap_setCell _ _ _ _ (by omega)).trans h.res, (Below.heap_setCell _ _ _ _ (by omega)).trans h.box, h.read.kept (Below.heap_setCell _ _ _ _ (by omega)), grown_setCell' h.grown (by omega) _⟩
theorem PB.cells {w wr : World} {g : Nat} {s : ByteArray} {q : Nat} {fv : Value} {a b c : Int} (h : PB w wr g s q fv a b c) : wr.cell? ⟨w.heap.size + 1, 0, none⟩ = some fv ∧ wr.cell? ⟨w.heap.size + 1, 1, none⟩ = some (.int .i64 a) ∧ wr.cell? ⟨w.heap.size + 1, 2, none⟩ = some (.int .i64 b) ∧ wr.cell? ⟨w.heap.size + 1, 3, none⟩ = some (.int .i64 c) ∧ ∀ j, wr.frozen? ⟨w.heap.size + 1, j, none⟩ = false :=
  ⟨by simp [cell_of_row _ _ _ _ _ _ h.box], by simp [cell_of_row _ _ _ _ _ _ h.box], by simp [cell_of_row _ _ _ _ _ _ h.box], by simp [cell_of_row _ _ _ _ _ _ h.box], fun j => frozen_of_row _ _ _ _ _ h.box⟩
/-- a slice of functions that lie from block B on -/
def SlFrom (B : Nat) (w : World) (v : Value) (fs : List (List In)) : Prop := ∀ w'' : World, (∀ b, B ≤ b → b < w.heap.size → w''.heap[b]? = w.heap[b]?) → SlF w'' v fs
theorem SlFrom.now {B : Nat} {w : World} {v : Value} {fs : List (List In)} (h : SlFrom B w v fs) : SlF w v fs := h w fun _ _ _ => rfl
theorem SlFrom.kept {B : Nat} {w w' : World} {v : Value} {fs : List (List In)} (h : SlFrom B w v fs) (hs : w.heap.size ≤ w'.heap.size) (hb : ∀ b, B ≤ b → b < w.heap.size → w'.heap[b]? = w.heap[b]?) : SlFrom B w' v fs :=
  fun w'' hw => h w'' fun b h1 h2 => (hw b h1 (by omega)).trans (hb b h1 h2)
theorem cell_far {w : World} {p q : Addr} {u : Value} (h : q.block ≠ p.block) : (w.setCell p u).cell? q = w.cell? q := World.cell?_of_block (Below.heap_setCell _ _ _ _ h)
set_option maxHeartbeats 1000000 in
theorem program_any (g p : Nat) (s : ByteArray) (w : World) (hg : ReadAt w g s p) (hp : p ≤ 1000) :
    Calls Tryd.prog 26 #[.pointer (some ⟨g, 0, none⟩)] w fun e w' => ∃ fv, e = .returned (.agg #[fv, .int .i64 (rdP s.data.toList p).futs, .int .i64 (rdP s.data.toList p).depth, .int .i64 (rdP s.data.toList p).fuel]) ∧ SlFrom w.heap.size w' fv (rdP s.data.toList p).fs ∧ w.grownBy w' (some g) := by
  have hlt := hg.lt
  obtain ⟨hn, hn2⟩ := rdC_eq s.data.toList (p + 4)
  go_enter Tryd.func26, Tryd.ntmps26
  have P0 : PB w ((w.alloc (.cells #[.slice none 0 0, .int .i64 0, .int .i64 0, .int .i64 0] 24)).alloc (.cells #[.slice none 0 0, .int .i64 0, .int .i64 0, .int .i64 0] 24)) g s p (.slice none 0 0) 0 0 0 :=
    ⟨heap_alloc2_old _ _ _, heap_alloc2_new _ _ _, hg.kept (by rw [Below.heap_alloc _ _ _ (by simp; omega), Below.heap_alloc _ _ _ hlt]), grown_alloc (World.grownBy_alloc _ _ _) _⟩
  go_wp2_with fail
  refine (take_any g p s _ _ P0.read (by omega) (by omega) (by omega)).mono ?_
  rintro e w1 ⟨rfl, hr1, hg1⟩
  have e1 : Int.toNat 1 = 1 := rfl
  have e2 : Int.toNat 2 = 2 := rfl
  rw [e1] at hr1
  rw [e1]
  have P1 := P0.kept hlt hg1 hr1
  obtain ⟨c0, c1, c2, c3, fz⟩ := P1.cells
  have P2 := P1.set hlt 1 (.int .i64 (takeV s.data.toList p 1)) rfl
  clear hr1 hg1 P0 P1 hg
  go_wp2_with fail
  refine (take_any g _ s _ _ P2.read (by omega) (by omega) (by omega)).mono ?_
  rintro e w2 ⟨rfl, hr2, hg2⟩
  rw [e1] at hr2
  rw [e1]
  have P3 := P2.kept hlt hg2 hr2
  clear c0 c1 c2 c3 fz
  obtain ⟨c0, c1, c2, c3, fz⟩ := P3.cells
  have P4 := P3.set hlt 2 (.int .i64 (takeV s.data.toList (p + 1) 1)) rfl
  clear hr2 hg2 P2 P3
  go_wp2_with fail
  refine (take_any g _ s _ _ P4.read (by omega) (by omega) (by omega)).mono ?_
  rintro e w3 ⟨rfl, hr3, hg3⟩
  rw [e2] at hr3
  rw [e2]
  have P5 := P4.kept hlt hg3 hr3
  clear c0 c1 c2 c3 fz
  obtain ⟨c0, c1, c2, c3, fz⟩ := P5.cells
  have P6 := P5.set hlt 3 (.int .i64 (takeV s.data.toList (p + 1 + 1) 2)) rfl
  clear hr3 hg3 P4 P5
  go_wp2_with fail
  refine (take_any g _ s _ _ P6.read (by omega) (by omega) (by omega)).mono ?_
  rintro e w4 ⟨rfl, hr4, hg4⟩
  rw [e1] at hr4
  rw [e1]
  have P7 := P6.kept hlt hg4 hr4
  clear hr4 hg4 P6 e1 e2
  have en : takeV s.data.toList (p + 1 + 1 + 2) 1 = (rdC s.data.toList (p + 4) : Int) := hn
  rw [en]
  clear hn en
  generalize hN : rdC s.data.toList (p + 4) = n at *
  have HN : Hid (rdC s.data.toList (p + 4) = n) := hN
  clear hN
  have hmk := make_fns n (by omega)
  clear c0 c1 c2 c3 fz
  obtain ⟨c0, c1, c2, c3, fz⟩ := P7.cells
  have hz4 := P7.grown.size
  have hz5 := lt_of_block P7.box
  have hF0 : RowF ((w4.setCell ⟨w.heap.size + 1, 0, none⟩ (.slice (some ⟨w4.heap.size, 0, none⟩) n n)).alloc (.cells (nilRow n) 42)) w4.heap.size n 0 s.data.toList (p + 5) (nilRow n) := ⟨by have := heap_alloc_new (w4.setCell ⟨w.heap.size + 1, 0, none⟩ (.slice (some ⟨w4.heap.size, 0, none⟩) n n)) (.cells (nilRow n) 42); simpa using this, nilRow_size n, by omega⟩
  have P9 := (P7.set hlt 0 (.slice (some ⟨w4.heap.size, 0, none⟩) n n) rfl).alloc hlt (.cells (nilRow n) 42)
  obtain ⟨d0, d1, d2, d3, dz⟩ := P9.cells
  clear P7
  go_wp2_with fail
  go_loopw [21] (fun i wr => ∃ (k : Nat) (cur : Array Value), k ≤ n ∧ i = .int .i64 k ∧ PB w wr g s (rdFs s.data.toList (p + 5) k) (.slice (some ⟨w4.heap.size, 0, none⟩) n n) (takeV s.data.toList p 1) (takeV s.data.toList (p + 1) 1) (takeV s.data.toList (p + 1 + 1) 2) ∧ RowF wr w4.heap.size n k s.data.toList (p + 5) cur) (fun i _ => n - (intOf i).toNat)
  case atStart => exact ⟨0, nilRow n, by omega, rfl, P9, hF0⟩
  case round =>
    obtain ⟨k, cur, hk, rfl, hP, hF⟩ := hrel
    have hpl := rdFs_le s.data.toList (p + 5) k
    have hFl := lt_of_block hF.block
    clear d0 d1 d2 d3 dz P9 hF0
    by_cases hkn : k < n
    · obtain ⟨d0, -, -, -, -⟩ := hP.cells
      go_wp2_with fail
      go_region_held3 (fun w' => w'.cell? ⟨w.heap.size + 1, 0, none⟩ = some (.slice (some ⟨w4.heap.size, 0, none⟩) n n)) (first | exact d0 | assumption | (rw [cell_far (by simp; omega)]; assumption)) (first | (go_at_call 38; refine (instructions_any g _ s _ (show ReadAt wr.drew g s _ from hP.read) (by omega)).mono ?_; rintro e w5 ⟨G, c, rfl, hGl, hRK, hrd5, hgr5'⟩; have hgr5 : wr.grownBy w5 (some g) := ⟨hgr5'.os, hgr5'.tape, hgr5'.output, hgr5'.size, hgr5'.block⟩; have hP5 := hP.kept hlt hgr5 hrd5; have d5 := hP5.cells.1; have hF5 := hF.kept fun b hb1 hb2 => hgr5.block b hb2 (by simp; omega); obtain ⟨u5, e5⟩ := hF5.cell k hkn; have f5 := frozen_of_row w5 _ k _ _ hF5.block; clear hgr5'))
      have hP6 := hP5.far hlt (p := ⟨w4.heap.size, k, none⟩) (by simp; omega) (.slice (some ⟨G, 0, none⟩) (rdC s.data.toList (rdFs s.data.toList (p + 5) k)) (rdC s.data.toList (rdFs s.data.toList (p + 5) k)))
      have hF6 := hF5.store hkn (by have : wr.heap.size ≤ G := hGl; omega) hRK
      go_wp2_with fail
      go_roundw
      case rel => exact ⟨k + 1, _, by omega, by go_num, hP6, hF6⟩
      case measure => simp [intOf]; omega
    · have hkk : k = n := by omega
      subst hkk
      obtain ⟨d0, d1, d2, d3, dz⟩ := hP.cells
      have r0 := cell_of_row wr _ 0 _ _ _ hP.res
      have r1 := cell_of_row wr _ 1 _ _ _ hP.res
      have r2 := cell_of_row wr _ 2 _ _ _ hP.res
      have r3 := cell_of_row wr _ 3 _ _ _ hP.res
      have f0 := frozen_of_row wr _ 0 _ _ hP.res
      have f1 := frozen_of_row wr _ 1 _ _ hP.res
      have f2 := frozen_of_row wr _ 2 _ _ hP.res
      have f3 := frozen_of_row wr _ 3 _ _ hP.res
      simp at r0 r1 r2 r3
      have HF : Hid ((rdP s.data.toList p).fs = (List.range k).map fun k => rdF s.data.toList (rdFs s.data.toList (p + 5) k)) := by rw [← HN.out]; rfl
      have HP : Hid ((rdP s.data.toList p).futs = takeV s.data.toList p 1 ∧ (rdP s.data.toList p).depth = takeV s.data.toList (p + 1) 1 ∧ (rdP s.data.toList p).fuel = takeV s.data.toList (p + 1 + 1) 2) := ⟨rfl, rfl, rfl⟩
      go_wp2_with fail
      refine bodyPost_ret (v := .agg #[.slice (some ⟨w4.heap.size, 0, none⟩) k k, .int .i64 (takeV s.data.toList p 1), .int .i64 (takeV s.data.toList (p + 1) 1), .int .i64 (takeV s.data.toList (p + 1 + 1) 2)]) (by simp [results, Tryd.results26, go_sem, r0, r1, r2, r3]) rfl ⟨.slice (some ⟨w4.heap.size, 0, none⟩) k k, ?_, ?_, ?_⟩
      · rw [HP.out.1, HP.out.2.1, HP.out.2.2]
      · rw [HF.out]
        intro w'' hw''
        refine (hF.kept fun b hb1 hb2 => ?_).slF
        rw [hw'' b (by omega) (by simp [World.setCell]; omega), Below.heap_setCell _ _ _ _ (by simp; omega), Below.heap_setCell _ _ _ _ (by simp; omega), Below.heap_setCell _ _ _ _ (by simp; omega), Below.heap_setCell _ _ _ _ (by simp; omega)]
      · exact grown_setCell' (grown_setCell' (grown_setCell' (grown_setCell' hP.grown (Nat.le_refl _) _) (Nat.le_refl _) _) (Nat.le_refl _) _) (Nat.le_refl _) _
end Go.Proofs.YtjaiicjnabpapaaDoor
