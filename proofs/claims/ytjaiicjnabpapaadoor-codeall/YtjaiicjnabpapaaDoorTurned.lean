/-
  The law CodeTurned: its walk.
-/
import Derived.Test.YtjaiicjnabpapaaDoorBoxes
import Derived.Test.YtjaiicjnabpapaaDoorSizes
import Derived.Laws.IdiomStrings
import Derived.Laws.BitsAllLaws
namespace Go.Proofs.YtjaiicjnabpapaaDoor
open Go.RowKit

theorem putB_length (p : Pr) : 8 ≤ (putB p).length := by
  have : (headB p).length = 8 := by simp [headB, be_length]
  rw [putB, List.length_append]
  omega
theorem putB_upper {p : Pr} (h : Good p) : (putB p).length ≤ 7000 := by
  have h1 : (headB p).length = 8 := by simp [headB, be_length]
  have h2 := funsB_length p.fs h.small
  have h3 := h.few
  rw [putB, List.length_append]
  omega
/-- a row of bytes, marked behind its end, whose first cells are these -/
structure RowB (w : World) (G : Nat) (l : List UInt8) (C : Array Value) (fr : Nat × Nat) : Prop where
  block : w.heap[G]? = some (.cells C 5 fr)
  size : l.length ≤ C.size
  told : ∀ j (h : j < l.length), C[j]? = some (.int .u8 (l[j].toNat : Int))
  free : fr = (C.size, C.size + 1)
theorem rowB_made (w : World) (S : ByteArray) : RowB (w.alloc (.cells (bytesRow S (grownCap w S.size 0 5)) 5 ((bytesRow S (grownCap w S.size 0 5)).size, (bytesRow S (grownCap w S.size 0 5)).size + 1))).drew w.heap.size S.data.toList (bytesRow S (grownCap w S.size 0 5)) ((bytesRow S (grownCap w S.size 0 5)).size, (bytesRow S (grownCap w S.size 0 5)).size + 1) := by
  refine ⟨heap_alloc_new w _, by simp [bytesRow], fun j hj => ?_, rfl⟩
  have hj2 : j < S.data.size := by simpa using hj
  simp [bytesRow, Array.getElem?_append]
  rw [if_pos (show j < S.size from hj2), Array.getElem?_eq_getElem hj2]
  rfl
theorem RowB.cell {w : World} {G : Nat} {l : List UInt8} {C : Array Value} {fr : Nat × Nat} (h : RowB w G l C fr) (j : Nat) (hj : j < l.length) : w.cell? ⟨G, j, none⟩ = some (.int .u8 (l[j].toNat : Int)) := by
  rw [cell_of_row w G j C _ _ h.block]
  exact h.told j hj
theorem RowB.frozen {w : World} {G : Nat} {l : List UInt8} {C : Array Value} {fr : Nat × Nat} (h : RowB w G l C fr) (j : Nat) (hj : j < l.length) : w.frozen? ⟨G, j, none⟩ = false := by
  have hb := h.block
  have hs := h.size
  rw [h.free] at hb
  simp [World.frozen?, hb]
  omega
theorem RowB.turn {w : World} {G : Nat} {l : List UInt8} {C : Array Value} {fr : Nat × Nat} (h : RowB w G l C fr) (i : Nat) (hi : i < l.length) (z : Nat) (hz : z < 256) : RowB (w.setCell ⟨G, i, none⟩ (.int .u8 (z : Int))) G (l.set i (UInt8.ofNat z)) (C.setIfInBounds i (.int .u8 (z : Int))) fr := by
  refine ⟨?_, by simp; exact h.size, fun j hj => ?_, by rw [h.free]; simp⟩
  · rw [setCell_eq_setRow w G i C _ _ _ h.block]
    exact setRow_heap w G C _ _ _ h.block
  · have hj2 : j < l.length := by simpa using hj
    rw [Array.getElem?_setIfInBounds]
    by_cases e : i = j
    · subst e
      have := h.size
      rw [if_pos rfl, if_pos (by omega)]
      simp [Nat.mod_eq_of_lt hz]
    · rw [if_neg e, h.told j hj2]
      simp [e]
theorem RowB.string {P : Program} {w : World} {G : Nat} {l : List UInt8} {C : Array Value} {fr : Nat × Nat} {s d : TypeId} (h : RowB w G l C fr) (cp : Nat)
    (hs : P.underlying s = some (.slice 5)) (he : P.underlying 5 = some (.int .u8)) (hd : P.underlying d = some .string) :
    (convert s d (.slice (some ⟨G, 0, none⟩) l.length cp)).run P w = .ok (.string (strB l)) w := by
  rw [run_convert_bytes_string w s d 5 _ _ _ hs he hd]
  have hl : (loadCells ⟨G, 0, none⟩ l.length).run P w = .ok ((l.map fun x => (x.toNat : Int)).map (Value.int .u8)).toArray w := by
    have e2 : (l.map fun x => (x.toNat : Int)).map (Value.int .u8) = cellsU l := by simp [cellsU, cellU, Function.comp_def]
    have e1 : (cellsU l).length = l.length := by simp [cellsU]
    have h2 := run_loadCells_list (P := P) (w := w) ⟨G, 0, none⟩ (cellsU l) fun j v hv => by
      have hj : j < l.length := by rw [← e1]; exact (List.getElem?_eq_some_iff.1 hv).1
      have e : (⟨G, 0, none⟩ : Addr).add j = ⟨G, j, none⟩ := by unfold Addr.add; split <;> simp_all
      rw [e, h.cell j hj, ← hv]
      simp [cellsU, cellU, hj]
    rw [e1] at h2
    rw [h2, e2]
  rw [run_bytesToString w _ _ _ _ hl, push_fold]
  simp [strB, ByteArray.empty, ByteArray.emptyWithCapacity]
  rfl
theorem RowB.kept {w w' : World} {G : Nat} {l : List UInt8} {C : Array Value} {fr : Nat × Nat} (h : RowB w G l C fr) (hb : Below w.heap.size w w') : RowB w' G l C fr :=
  ⟨(hb.block _ (lt_of_block h.block)).trans h.block, h.size, h.told, h.free⟩
theorem xor_self_iff (a b : Nat) : a ^^^ b = a ↔ b = 0 := by
  constructor
  · intro h
    have : a ^^^ (a ^^^ b) = a ^^^ a := by rw [h]
    rw [← Nat.xor_assoc, Nat.xor_self, Nat.zero_xor] at this
    exact this
  · rintro rfl
    simp
theorem turned_iff (l : List UInt8) (i : Nat) (hi : i < l.length) (y : Int) (h0 : 0 ≤ y) (h1 : y ≤ 255) (z : Nat) (hz : z = l[i].toNat ^^^ y.toNat) : y = 0 ↔ l.set i (UInt8.ofNat z) = l := by
  have hz8 : z < 256 := by rw [hz]; exact Nat.xor_lt_two_pow (n := 8) (by have := l[i].toNat_lt; omega) (by omega)
  have e : z = l[i].toNat ↔ y = 0 := by
    rw [hz, xor_self_iff]
    omega
  rw [← e]
  constructor
  · intro h
    rw [h]
    apply List.ext_getElem
    · simp
    · intro j h1 h2
      rw [List.getElem_set]
      split
      · rename_i e
        subst e
        simp
      · rfl
  · intro h
    have h2 : (l.set i (UInt8.ofNat z))[i]'(by simpa using hi) = l[i] := by simp only [h]
    rw [List.getElem_set_self] at h2
    rw [← h2]
    simp [Nat.mod_eq_of_lt hz8]
set_option maxHeartbeats 2000000 in
theorem turned_walk (nv : Value) (len : Nat) (at' by' : Int) (w : World) (hT : Tab w) (hn : NumsIn w nv len) (hl : len ≤ 9223372036854775807) (hy0 : 0 ≤ by') (hy1 : by' ≤ 255) :
    Calls Tryd.prog 8 #[nv, .int .i64 at', .int .u8 by'] w fun e w' => e = .returned (.bool true) ∧ Below w.heap.size w w' := by
  obtain ⟨ad, cap, rfl, hn1, hn2, hn3⟩ := hn
  by_cases h100 : 100 < len
  · have hd : decide ((100 : Int) < (len : Int)) = true := by simp; omega
    go_enter Tryd.func8, Tryd.ntmps8
    go_wp2_with (go_at_call 10; refine (awake_any _ hT).mono ?_; rintro e w1 ⟨rfl, hb1⟩)
    go_ret
    exact ⟨rfl, hb1⟩
  · have hd : decide ((100 : Int) < (len : Int)) = false := by simp; omega
    have kb := fun (w : World) (s : ByteArray) => run_bytes_of_string (P := Tryd.prog) w 9 48 5 s Tryd.underlying9 Tryd.underlying48 Tryd.underlying5
    go_enter Tryd.func8, Tryd.ntmps8
    go_wp2_with fail
    refine (prog_any _ true w ⟨ad, len, cap, rfl, hn1, hn2, hn3⟩).mono ?_
    rintro e w1 ⟨p, fv, hok, rfl, hF, hb1⟩
    have hF1 := hF
    obtain ⟨fa, fc, rfl, -⟩ := hF
    have hgood := hok.good
    have hB1 := BoxedP.made hF1
    have hb2 := below_alloc hb1 (.cells #[.slice fa p.fs.length fc, .int .i64 p.futs, .int .i64 p.depth, .int .i64 p.fuel] 24)
    clear hF1
    go_wp2_with fail
    refine (Put_own p hgood _ _ (hT.below hb2) hB1.fns).mono ?_
    rintro e w2 ⟨rfl, hb3'⟩
    have hb3 := below_then hb2 hb3'
    have hB2 := hB1.kept hb3'
    clear hb3' hB1
    have hS1 : 8 ≤ (strB (putB p)).size := by rw [strB_size]; exact putB_length p
    have hS2 : (strB (putB p)).size ≤ 7000 := by rw [strB_size]; exact putB_upper hgood
    generalize hS : strB (putB p) = S at *
    have HS : Hid (strB (putB p) = S) := hS
    clear hS
    obtain ⟨i, hiI⟩ : ∃ i : Nat, placeI at' (S.size : Int) = (i : Int) := ⟨(placeI at' S.size).toNat, by have := placeI_bd at' (S.size : Int) (by omega); omega⟩
    have hi : i < S.size := by have := placeI_bd at' (S.size : Int) (by omega); omega
    have hd8 : decide ((S.size : Int) < 8) = false := by simp; omega
    go_wp2_with fail
    refine (place_any _ _ _ (by omega) (by omega)).mono ?_
    rintro e w3 ⟨rfl, hw3⟩
    rw [hiI]
    have hR := rowB_made w2 S
    have hbm : Below w2.heap.size w2 w3 := by rw [hw3]; exact ((Below.refl _ _).alloc (Nat.le_refl _) _).drew
    rw [← hw3] at hR
    clear hw3 kb hiI
    generalize bytesRow S (grownCap w2 S.size 0 5) = C at *
    generalize grownCap w2 S.size 0 5 = cp at *
    have hB3 := hB2.kept hbm
    have hb4 := below_then hb3 hbm
    obtain ⟨l, hlS⟩ : ∃ l, S.data.toList = l := ⟨_, rfl⟩
    rw [hlS] at hR
    have hll : l.length = S.size := by rw [← hlS]; simp
    have hSl : S = strB l := by rw [← hlS]; simp [strB]
    have hil : i < l.length := by omega
    obtain ⟨z, hz⟩ : ∃ z : Nat, z = l[i].toNat ^^^ by'.toNat := ⟨_, rfl⟩
    have hx8 : bits .xor .u8 (l[i].toNat : Int) by' = (z : Int) := by
      have h1 := l[i].toNat_lt
      rw [u8_xor _ _ (by omega) (by omega) hy0 (by omega), hz, Int.toNat_natCast]
    have hz8 : z < 256 := by rw [hz]; exact Nat.xor_lt_two_pow (n := 8) (by have := l[i].toNat_lt; omega) (by omega)
    have c1 := hR.cell i hil
    have f1 := hR.frozen i hil
    have hR4 := hR.turn i hil z hz8
    have hbs : Below w3.heap.size w3 w3 := Below.refl _ _
    have hzG := lt_of_block hR.block
    have HZ : Hid (z = l[i].toNat ^^^ by'.toNat) := hz
    have HSL : Hid (S = strB l) := hSl
    have HLL : Hid (l.length = S.size) := hll
    clear hz hSl hll hlS hbs
    have hnG : w1.heap.size < w2.heap.size := by have := lt_of_block hB2.box; omega
    have hB4 : BoxedP (w3.setCell ⟨w2.heap.size, i, none⟩ (.int .u8 (z : Int))) w1.heap.size fa fc p := ⟨(Below.heap_setCell _ _ _ _ (by simp; omega)).trans hB3.box, hB2.fns.kept (hbm.setCell (by simp) _)⟩
    have hb5 : Below w.heap.size w (w3.setCell ⟨w2.heap.size, i, none⟩ (.int .u8 (z : Int))) := hb4.setCell (by have := hb3.size; simp; omega) _
    have kt := hR4.string (P := Tryd.prog) (s := 48) (d := 9) cp Tryd.underlying48 Tryd.underlying5 Tryd.underlying9
    have elen : (l.set i (UInt8.ofNat z)).length = S.size := by rw [List.length_set]; exact HLL.out
    rw [elen] at kt
    clear elen
    have hT5 := hT.below hb5
    have hLz : by' = 0 ↔ l.set i (UInt8.ofNat z) = putB p := by
      have hlp : putB p = l := strB_inj (HS.out.trans HSL.out)
      rw [hlp]
      exact turned_iff l i hil by' hy0 hy1 z HZ.out
    generalize hL : l.set i (UInt8.ofNat z) = L at *
    generalize hW5 : w3.setCell ⟨w2.heap.size, i, none⟩ (.int .u8 (z : Int)) = W5 at *
    have HW5 : Hid (w3.setCell ⟨w2.heap.size, i, none⟩ (.int .u8 (z : Int)) = W5) := hW5
    have HL : Hid (by' = 0 ↔ L = putB p) := hLz
    have hLl : L.length = S.size := by rw [← hL, List.length_set]; exact HLL.out
    clear hLz hL
    generalize C.setIfInBounds i (.int .u8 (z : Int)) = C5 at *
    generalize ((C.size : Nat), C.size + 1) = fr at *
    go_wp2_with fail
    refine (Get_any _ _ hT5).mono ?_
    rintro e w4 ⟨hb6', h⟩
    have hb6 := below_then hb5 hb6'
    have hB6 := hB4.kept hb6'
    have hR6 := hR4.kept hb6'
    clear hb6' hB4 hR4 kt hR c1 f1 hB3 hB2 hT5
    rcases h with ⟨q, gv, hq, hsq, rfl, hG⟩ | ⟨hno, rfl⟩
    · have hLq : L = putB q := strB_inj hsq
      have hG0 := hG
      obtain ⟨ga, gc, rfl, -⟩ := hG0
      have hQ7 := BoxedP.made hG
      have hbq := (Below.refl w4.heap.size w4).alloc (Nat.le_refl _) (.cells #[.slice ga q.fs.length gc, .int .i64 q.futs, .int .i64 q.depth, .int .i64 q.fuel] 24)
      have hb7 := below_alloc hb6 (.cells #[.slice ga q.fs.length gc, .int .i64 q.futs, .int .i64 q.depth, .int .i64 q.fuel] 24)
      have hB7 := hB6.kept hbq
      have hR7 := hR6.kept hbq
      clear hbq hB6 hR6 hG
      go_wp2_with fail
      refine (Put_own q hq _ _ (hT.below hb7) hQ7.fns).mono ?_
      rintro e w5 ⟨rfl, hb8'⟩
      have hb8 := below_then hb7 hb8'
      have hB8 := hB7.kept hb8'
      have hQ8 := hQ7.kept hb8'
      have hR8 := hR7.kept hb8'
      clear hb8' hB7 hQ7 hR7
      have kt := hR8.string (P := Tryd.prog) (s := 48) (d := 9) cp Tryd.underlying48 Tryd.underlying5 Tryd.underlying9
      rw [hLl] at kt
      have hse := str_eq hsq.symm
      obtain ⟨d0, d1, d2, d3⟩ := hB8.cells
      obtain ⟨e0, e1, e2, e3⟩ := hQ8.cells
      have HLq : Hid (L = putB q) := hLq
      clear hLq hsq
      go_wp2_with fail
      refine (sameProg_any p q _ _ _ hB8.fns hQ8.fns hgood.few' hgood.small' hq.few' hq.small').mono ?_
      rintro e w6 ⟨⟨r, rfl, hr⟩, hb9'⟩
      have hb9 := below_then hb8 hb9'
      have hry : (r == (by' == 0)) = true := by
        have h1 : r = true ↔ by' = 0 := by
          rw [hr, HL.out, HLq.out]
          exact ⟨fun e => by rw [e], fun e => put_inj hgood hq e.symm⟩
        by_cases h0 : by' = 0
        · simp [h0, h1.2 h0]
        · have : r = false := by cases r <;> simp_all
          simp [h0, this]
      clear hr
      go_wp2_with (go_at_call 10; refine (awake_any _ (hT.below hb9)).mono ?_; rintro e w7 ⟨rfl, hb10⟩)
      go_ret
      exact ⟨rfl, below_then hb9 hb10⟩
    · have hby : ¬ by' = 0 := fun h0 => hno p hgood (by rw [HL.out.1 h0])
      have by1 : (by' != 0) = true := by simp [hby]
      have by2 : (by' == 0) = false := by simp [hby]
      clear hno
      go_wp2_with (go_at_call 10; refine (awake_any _ (hT.below (below_alloc hb6 _))).mono ?_; rintro e w7 ⟨rfl, hb10⟩)
      go_ret
      exact ⟨rfl, below_then (below_alloc hb6 _) hb10⟩
end Go.Proofs.YtjaiicjnabpapaaDoor
