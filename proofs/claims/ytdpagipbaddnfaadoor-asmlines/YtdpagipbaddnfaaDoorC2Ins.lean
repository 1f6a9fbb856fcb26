/-
  An instruction by a number (package magpielaw00's L): what Ins answers: one that may run.
-/
import Derived.Test.YtdpagipbaddnfaaDoorC2Nums
namespace Go.Proofs.YtdpagipbaddnfaaDoor.C2
open Go.RowKit

/-- what instructions by numbers are, of a program with so many functions and futures, in a function of n -/
def okIns (funcs futs n : Int) (x : In) : Prop :=
  (x.o = 1 ∧ 0 ≤ x.a ∧ x.a ≤ 3 ∧ -2 ≤ x.b ∧ x.b ≤ 4 ∧ x.c = 0) ∨
  (2 ≤ x.o ∧ x.o ≤ 6 ∧ 0 ≤ x.a ∧ x.a ≤ 3 ∧ 0 ≤ x.b ∧ x.b ≤ 3 ∧ 0 ≤ x.c ∧ x.c ≤ 3) ∨
  (x.o = 7 ∧ 0 ≤ x.a ∧ x.a < n ∧ x.b = 0 ∧ x.c = 0) ∨
  (x.o = 8 ∧ 0 ≤ x.a ∧ x.a ≤ 3 ∧ 0 ≤ x.b ∧ x.b < n ∧ x.c = 0) ∨
  (x.o = 9 ∧ 0 ≤ x.a ∧ x.a ≤ 3 ∧ 0 ≤ x.b ∧ x.b < funcs ∧ 0 ≤ x.c ∧ x.c ≤ 3) ∨
  (x.o = 10 ∧ 0 ≤ x.a ∧ x.a ≤ 3 ∧ 0 ≤ x.b ∧ x.b ≤ 3 ∧ x.c = 0) ∨
  (x.o = 11 ∧ 0 ≤ x.a ∧ x.a < futs ∧ 0 ≤ x.b ∧ x.b ≤ 3 ∧ x.c = 0) ∨
  (x.o = 12 ∧ 0 ≤ x.a ∧ x.a ≤ 3 ∧ 0 ≤ x.b ∧ x.b < futs ∧ x.c = 0) ∨
  (x.o = 13 ∧ 0 ≤ x.a ∧ x.a ≤ 3 ∧ x.b = 0 ∧ x.c = 0) ∨
  (x.o = 14 ∧ x.a = 0 ∧ x.b = 0 ∧ x.c = 0) ∨
  (x.o = 15 ∧ 0 ≤ x.a ∧ x.a ≤ 3 ∧ x.b = 0 ∧ x.c = 0)
theorem grown_setCell {w w1 : World} {row : Option Nat} (h : w.grownBy w1 row) {p : Addr} (hp : w.heap.size ≤ p.block) (u : Value) : w.grownBy (w1.setCell p u) row :=
  ⟨h.os, h.tape, h.output, by have := h.size; simp [World.setCell]; omega, fun k hk hne => (Below.heap_setCell _ _ _ _ (by omega)).trans (h.block k hk hne)⟩
theorem LN.setCell {B : Nat} {w : World} {g : Nat} (h : LN B w g) {p : Addr} (hp : B ≤ p.block) (hne : g ≠ p.block) (u : Value) : LN B (w.setCell p u) g := h.kept ((Below.refl _ _).setCell hp _) (Below.heap_setCell _ _ _ _ hne)
theorem fin4 {B g : Nat} {w w1 : World} (hg : w.grownBy w1 (some g)) (hL : LN B w1 g) (hB : B ≤ w.heap.size) (hne : g ≠ w.heap.size) (a b c d : Value) : w.grownBy ((((w1.setCell ⟨w.heap.size, 0, none⟩ a).setCell ⟨w.heap.size, 1, none⟩ b).setCell ⟨w.heap.size, 2, none⟩ c).setCell ⟨w.heap.size, 3, none⟩ d) (some g) ∧ LN B ((((w1.setCell ⟨w.heap.size, 0, none⟩ a).setCell ⟨w.heap.size, 1, none⟩ b).setCell ⟨w.heap.size, 2, none⟩ c).setCell ⟨w.heap.size, 3, none⟩ d) g :=
  ⟨grown_setCell (grown_setCell (grown_setCell (grown_setCell hg (Nat.le_refl _) _) (Nat.le_refl _) _) (Nat.le_refl _) _) (Nat.le_refl _) _, (((hL.setCell (p := ⟨w.heap.size, 0, none⟩) hB hne _).setCell (p := ⟨w.heap.size, 1, none⟩) hB hne _).setCell (p := ⟨w.heap.size, 2, none⟩) hB hne _).setCell (p := ⟨w.heap.size, 3, none⟩) hB hne _⟩
theorem ok_const {F U n a b : Int} (ha : 0 ≤ a ∧ a ≤ 3) (hb : -2 ≤ b ∧ b ≤ 4) : okIns F U n ⟨1, a, b, 0⟩ := .inl ⟨rfl, ha.1, ha.2, hb.1, hb.2, rfl⟩
theorem ok_op {F U n o a b c : Int} (ho : 2 ≤ o ∧ o ≤ 6) (ha : 0 ≤ a ∧ a ≤ 3) (hb : 0 ≤ b ∧ b ≤ 3) (hc : 0 ≤ c ∧ c ≤ 3) : okIns F U n ⟨o, a, b, c⟩ := .inr (.inl ⟨ho.1, ho.2, ha.1, ha.2, hb.1, hb.2, hc.1, hc.2⟩)
theorem ok_jump {F U n a : Int} (ha : 0 ≤ a ∧ a < n) : okIns F U n ⟨7, a, 0, 0⟩ := .inr (.inr (.inl ⟨rfl, ha.1, ha.2, rfl, rfl⟩))
theorem ok_zero {F U n a b : Int} (ha : 0 ≤ a ∧ a ≤ 3) (hb : 0 ≤ b ∧ b < n) : okIns F U n ⟨8, a, b, 0⟩ := .inr (.inr (.inr (.inl ⟨rfl, ha.1, ha.2, hb.1, hb.2, rfl⟩)))
theorem ok_fork {F U n a b c : Int} (ha : 0 ≤ a ∧ a ≤ 3) (hb : 0 ≤ b ∧ b < F) (hc : 0 ≤ c ∧ c ≤ 3) : okIns F U n ⟨9, a, b, c⟩ := .inr (.inr (.inr (.inr (.inl ⟨rfl, ha.1, ha.2, hb.1, hb.2, hc.1, hc.2⟩))))
theorem ok_join {F U n a b : Int} (ha : 0 ≤ a ∧ a ≤ 3) (hb : 0 ≤ b ∧ b ≤ 3) : okIns F U n ⟨10, a, b, 0⟩ := .inr (.inr (.inr (.inr (.inr (.inl ⟨rfl, ha.1, ha.2, hb.1, hb.2, rfl⟩)))))
theorem ok_set {F U n a b : Int} (ha : 0 ≤ a ∧ a < U) (hb : 0 ≤ b ∧ b ≤ 3) : okIns F U n ⟨11, a, b, 0⟩ := .inr (.inr (.inr (.inr (.inr (.inr (.inl ⟨rfl, ha.1, ha.2, hb.1, hb.2, rfl⟩))))))
theorem ok_get {F U n a b : Int} (ha : 0 ≤ a ∧ a ≤ 3) (hb : 0 ≤ b ∧ b < U) : okIns F U n ⟨12, a, b, 0⟩ := .inr (.inr (.inr (.inr (.inr (.inr (.inr (.inl ⟨rfl, ha.1, ha.2, hb.1, hb.2, rfl⟩)))))))
theorem ok_cancel {F U n a : Int} (ha : 0 ≤ a ∧ a ≤ 3) : okIns F U n ⟨13, a, 0, 0⟩ := .inr (.inr (.inr (.inr (.inr (.inr (.inr (.inr (.inl ⟨rfl, ha.1, ha.2, rfl, rfl⟩))))))))
theorem ok_yield {F U n : Int} : okIns F U n ⟨14, 0, 0, 0⟩ := .inr (.inr (.inr (.inr (.inr (.inr (.inr (.inr (.inr (.inl ⟨rfl, rfl, rfl, rfl⟩)))))))))
theorem ok_ret {F U n a : Int} (ha : 0 ≤ a ∧ a ≤ 3) : okIns F U n ⟨15, a, 0, 0⟩ := .inr (.inr (.inr (.inr (.inr (.inr (.inr (.inr (.inr (.inr ⟨rfl, ha.1, ha.2, rfl, rfl⟩)))))))))
theorem emod_bd (q m : Int) (h : 0 < m) : 0 ≤ q % m ∧ q % m < m := ⟨Int.emod_nonneg _ (by omega), Int.emod_lt_of_pos _ h⟩
theorem q7_bd (q : Int) : -2 ≤ q % 7 - 2 ∧ q % 7 - 2 ≤ 4 := by omega
/-- behind the walk: the instruction, and how the world turned -/
def InsPost (B g : Nat) (w : World) (funcs futs n : Int) (e : Ending) (w' : World) : Prop :=
  ∃ x : In, e = .returned (.agg #[.int .i64 x.o, .int .i64 x.a, .int .i64 x.b, .int .i64 x.c]) ∧ okIns funcs futs n x ∧ w.grownBy w' (some g) ∧ LN B w' g
set_option maxHeartbeats 4000000 in
theorem ins_any (B g : Nat) (funcs futs at' n : Int) (w : World) (hL : LN B w g) (hB : B ≤ g) (hf : 1 ≤ funcs) (hf2 : funcs ≤ 100) (hu : 0 ≤ futs) (hu2 : futs ≤ 100) (ha : 0 ≤ at') (hn : at' + 1 < n) (hn2 : n ≤ 100) :
    Calls Tryd.prog 41 #[.pointer (some ⟨g, 0, none⟩), .int .i64 funcs, .int .i64 futs, .int .i64 at', .int .i64 n] w fun e w' => InsPost B g w funcs futs n e w' := by
  go_enter Tryd.func41, Tryd.ntmps41
  go_wp2_with fail
  refine (next_any B g _ _ (hL.kept ((Below.refl _ _).alloc (by have := hL.lt; omega) _) (heap_alloc_old _ _ hL.lt)) hB (by omega) (by omega)).mono ?_
  rintro e w1 ⟨v, rfl, hv0, hv1, hg1, hL1⟩
  have hgb : w1.heap[w.heap.size]? = some (.cells #[.int .i64 0, .int .i64 0, .int .i64 0, .int .i64 0] 50 (0, 0)) := (hg1.block _ (by simp) (by have := hL.lt; simp; omega)).trans (heap_alloc_new _ _)
  have hgr : w.grownBy w1 (some g) := ⟨hg1.os, hg1.tape, hg1.output, by have := hg1.size; simp at this; omega, fun k hk hne => (hg1.block k (by simp; omega) hne).trans (heap_alloc_old _ _ hk)⟩
  have hlw := hL.lt
  clear hg1 hL
  have hlg := hL1.lt
  have hgw : g ≠ w.heap.size := by omega
  have c0 := cell_of_row w1 w.heap.size 0 _ _ _ hgb
  have c1 := cell_of_row w1 w.heap.size 1 _ _ _ hgb
  have c2 := cell_of_row w1 w.heap.size 2 _ _ _ hgb
  have c3 := cell_of_row w1 w.heap.size 3 _ _ _ hgb
  simp at c0 c1 c2 c3
  have f0 := frozen_of_row w1 w.heap.size 0 _ _ hgb
  have f1 := frozen_of_row w1 w.heap.size 1 _ _ hgb
  have f2 := frozen_of_row w1 w.heap.size 2 _ _ hgb
  have f3 := frozen_of_row w1 w.heap.size 3 _ _ hgb
  have fin : ∀ a b c d : Value, w.grownBy ((((w1.setCell ⟨w.heap.size, 0, none⟩ a).setCell ⟨w.heap.size, 1, none⟩ b).setCell ⟨w.heap.size, 2, none⟩ c).setCell ⟨w.heap.size, 3, none⟩ d) (some g) ∧ LN B ((((w1.setCell ⟨w.heap.size, 0, none⟩ a).setCell ⟨w.heap.size, 1, none⟩ b).setCell ⟨w.heap.size, 2, none⟩ c).setCell ⟨w.heap.size, 3, none⟩ d) g := fun a b c d => fin4 hgr hL1 (by omega) hgw a b c d
  obtain ⟨q, hq⟩ : ∃ q, v / 2048 = q := ⟨_, rfl⟩
  have hq0 : 0 ≤ q := by omega
  have hq1 : q ≤ 8192 := by omega
  obtain ⟨r, hr⟩ : ∃ r, v / 32 % 4 = r := ⟨_, rfl⟩
  obtain ⟨s, hs⟩ : ∃ s, v / 128 % 4 = s := ⟨_, rfl⟩
  obtain ⟨t, ht⟩ : ∃ t, v / 512 % 4 = t := ⟨_, rfl⟩
  obtain ⟨k, hk⟩ : ∃ k, v % 32 = k := ⟨_, rfl⟩
  have hr2 : 0 ≤ r ∧ r ≤ 3 := by omega
  have hs2 : 0 ≤ s ∧ s ≤ 3 := by omega
  have ht2 : 0 ≤ t ∧ t ≤ 3 := by omega
  have hk2 : 0 ≤ k ∧ k ≤ 31 := by omega
  have FIN : Hid (∀ a b c d : Value, w.grownBy ((((w1.setCell ⟨w.heap.size, 0, none⟩ a).setCell ⟨w.heap.size, 1, none⟩ b).setCell ⟨w.heap.size, 2, none⟩ c).setCell ⟨w.heap.size, 3, none⟩ d) (some g) ∧ LN B ((((w1.setCell ⟨w.heap.size, 0, none⟩ a).setCell ⟨w.heap.size, 1, none⟩ b).setCell ⟨w.heap.size, 2, none⟩ c).setCell ⟨w.heap.size, 3, none⟩ d) g) := fin
  clear fin
  rcases (by omega : (k < 4) ∨ (k = 4) ∨ (k = 5) ∨ (k = 6) ∨ (k = 7) ∨ (k = 8) ∨ (k = 9) ∨ (10 ≤ k ∧ k < 12) ∨ (k = 12) ∨ (13 ≤ k ∧ k < 21) ∨ (21 ≤ k ∧ k < 26) ∨ (k = 26 ∧ 0 < futs) ∨ (27 ≤ k ∧ k < 29 ∧ 0 < futs) ∨ (k = 29) ∨ (k = 26 ∧ futs = 0) ∨ (27 ≤ k ∧ k < 29 ∧ futs = 0) ∨ (30 ≤ k)) with hc | hc | hc | hc | hc | hc | hc | hc | hc | hc | hc | hc | hc | hc | hc | hc | hc
  · go_wp2_with fail
    exact bodyPost_ret (v := .agg #[.int .i64 1, .int .i64 r, .int .i64 (q % 7 - 2), .int .i64 0]) (by simp [results, Tryd.results41, go_sem, c0, c1, c2, c3]) rfl ⟨⟨1, r, (q % 7 - 2), 0⟩, rfl, ok_const hr2 (q7_bd q), (FIN.out _ _ _ _).1, (FIN.out _ _ _ _).2⟩
  · subst hc
    have hx : ∀ wx : World, (Instr.index 120 (.agg #[.int .i64 2, .int .i64 3, .int .i64 4, .int .i64 5, .int .i64 6, .int .i64 2]) (.int .i64 0)).run Tryd.prog wx = .ok (.int .i64 2) wx := fun _ => by kernel_rfl
    go_wp2_with fail
    exact bodyPost_ret (v := .agg #[.int .i64 2, .int .i64 r, .int .i64 s, .int .i64 t]) (by simp [results, Tryd.results41, go_sem, c0, c1, c2, c3]) rfl ⟨⟨2, r, s, t⟩, rfl, ok_op (by decide) hr2 hs2 ht2, (FIN.out _ _ _ _).1, (FIN.out _ _ _ _).2⟩
  · subst hc
    have hx : ∀ wx : World, (Instr.index 120 (.agg #[.int .i64 2, .int .i64 3, .int .i64 4, .int .i64 5, .int .i64 6, .int .i64 2]) (.int .i64 1)).run Tryd.prog wx = .ok (.int .i64 3) wx := fun _ => by kernel_rfl
    go_wp2_with fail
    exact bodyPost_ret (v := .agg #[.int .i64 3, .int .i64 r, .int .i64 s, .int .i64 t]) (by simp [results, Tryd.results41, go_sem, c0, c1, c2, c3]) rfl ⟨⟨3, r, s, t⟩, rfl, ok_op (by decide) hr2 hs2 ht2, (FIN.out _ _ _ _).1, (FIN.out _ _ _ _).2⟩
  · subst hc
    have hx : ∀ wx : World, (Instr.index 120 (.agg #[.int .i64 2, .int .i64 3, .int .i64 4, .int .i64 5, .int .i64 6, .int .i64 2]) (.int .i64 2)).run Tryd.prog wx = .ok (.int .i64 4) wx := fun _ => by kernel_rfl
    go_wp2_with fail
    exact bodyPost_ret (v := .agg #[.int .i64 4, .int .i64 r, .int .i64 s, .int .i64 t]) (by simp [results, Tryd.results41, go_sem, c0, c1, c2, c3]) rfl ⟨⟨4, r, s, t⟩, rfl, ok_op (by decide) hr2 hs2 ht2, (FIN.out _ _ _ _).1, (FIN.out _ _ _ _).2⟩
  · subst hc
    have hx : ∀ wx : World, (Instr.index 120 (.agg #[.int .i64 2, .int .i64 3, .int .i64 4, .int .i64 5, .int .i64 6, .int .i64 2]) (.int .i64 3)).run Tryd.prog wx = .ok (.int .i64 5) wx := fun _ => by kernel_rfl
    go_wp2_with fail
    exact bodyPost_ret (v := .agg #[.int .i64 5, .int .i64 r, .int .i64 s, .int .i64 t]) (by simp [results, Tryd.results41, go_sem, c0, c1, c2, c3]) rfl ⟨⟨5, r, s, t⟩, rfl, ok_op (by decide) hr2 hs2 ht2, (FIN.out _ _ _ _).1, (FIN.out _ _ _ _).2⟩
  · subst hc
    have hx : ∀ wx : World, (Instr.index 120 (.agg #[.int .i64 2, .int .i64 3, .int .i64 4, .int .i64 5, .int .i64 6, .int .i64 2]) (.int .i64 4)).run Tryd.prog wx = .ok (.int .i64 6) wx := fun _ => by kernel_rfl
    go_wp2_with fail
    exact bodyPost_ret (v := .agg #[.int .i64 6, .int .i64 r, .int .i64 s, .int .i64 t]) (by simp [results, Tryd.results41, go_sem, c0, c1, c2, c3]) rfl ⟨⟨6, r, s, t⟩, rfl, ok_op (by decide) hr2 hs2 ht2, (FIN.out _ _ _ _).1, (FIN.out _ _ _ _).2⟩
  · subst hc
    have hx : ∀ wx : World, (Instr.index 120 (.agg #[.int .i64 2, .int .i64 3, .int .i64 4, .int .i64 5, .int .i64 6, .int .i64 2]) (.int .i64 5)).run Tryd.prog wx = .ok (.int .i64 2) wx := fun _ => by kernel_rfl
    go_wp2_with fail
    exact bodyPost_ret (v := .agg #[.int .i64 2, .int .i64 r, .int .i64 s, .int .i64 t]) (by simp [results, Tryd.results41, go_sem, c0, c1, c2, c3]) rfl ⟨⟨2, r, s, t⟩, rfl, ok_op (by decide) hr2 hs2 ht2, (FIN.out _ _ _ _).1, (FIN.out _ _ _ _).2⟩
  · go_wp2_with fail
    · exact bodyPost_ret (v := .agg #[.int .i64 8, .int .i64 r, .int .i64 (n - 1), .int .i64 0]) (by simp [results, Tryd.results41, go_sem, c0, c1, c2, c3]) rfl ⟨⟨8, r, (n - 1), 0⟩, rfl, ok_zero hr2 (by omega), (FIN.out _ _ _ _).1, (FIN.out _ _ _ _).2⟩
    · exact bodyPost_ret (v := .agg #[.int .i64 8, .int .i64 r, .int .i64 (at' + 1 + q % 4), .int .i64 0]) (by simp [results, Tryd.results41, go_sem, c0, c1, c2, c3]) rfl ⟨⟨8, r, (at' + 1 + q % 4), 0⟩, rfl, ok_zero hr2 (by omega), (FIN.out _ _ _ _).1, (FIN.out _ _ _ _).2⟩
  · subst hc
    go_wp2_with fail
    exact bodyPost_ret (v := .agg #[.int .i64 7, .int .i64 (q % n), .int .i64 0, .int .i64 0]) (by simp [results, Tryd.results41, go_sem, c0, c1, c2, c3]) rfl ⟨⟨7, (q % n), 0, 0⟩, rfl, ok_jump (emod_bd q n (by omega)), (FIN.out _ _ _ _).1, (FIN.out _ _ _ _).2⟩
  · have e12 : (k == 12) = false := by simp; omega
    go_wp2_with fail
    exact bodyPost_ret (v := .agg #[.int .i64 9, .int .i64 r, .int .i64 (q % funcs), .int .i64 s]) (by simp [results, Tryd.results41, go_sem, c0, c1, c2, c3]) rfl ⟨⟨9, r, (q % funcs), s⟩, rfl, ok_fork hr2 (emod_bd q funcs (by omega)) hs2, (FIN.out _ _ _ _).1, (FIN.out _ _ _ _).2⟩
  · have e12 : (k == 12) = false := by simp; omega
    go_wp2_with fail
    exact bodyPost_ret (v := .agg #[.int .i64 10, .int .i64 r, .int .i64 s, .int .i64 0]) (by simp [results, Tryd.results41, go_sem, c0, c1, c2, c3]) rfl ⟨⟨10, r, s, 0⟩, rfl, ok_join hr2 hs2, (FIN.out _ _ _ _).1, (FIN.out _ _ _ _).2⟩
  · have e12 : (k == 12) = false := by simp; omega
    have e26 : (k == 26) = true := by simp; omega
    go_wp2_with fail
    exact bodyPost_ret (v := .agg #[.int .i64 11, .int .i64 (q % futs), .int .i64 r, .int .i64 0]) (by simp [results, Tryd.results41, go_sem, c0, c1, c2, c3]) rfl ⟨⟨11, (q % futs), r, 0⟩, rfl, ok_set (emod_bd q futs (by omega)) hr2, (FIN.out _ _ _ _).1, (FIN.out _ _ _ _).2⟩
  · have e12 : (k == 12) = false := by simp; omega
    have e26 : (k == 26) = false := by simp; omega
    go_wp2_with fail
    exact bodyPost_ret (v := .agg #[.int .i64 12, .int .i64 r, .int .i64 (q % futs), .int .i64 0]) (by simp [results, Tryd.results41, go_sem, c0, c1, c2, c3]) rfl ⟨⟨12, r, (q % futs), 0⟩, rfl, ok_get hr2 (emod_bd q futs (by omega)), (FIN.out _ _ _ _).1, (FIN.out _ _ _ _).2⟩
  · have e12 : (k == 12) = false := by simp; omega
    have e26 : (k == 26) = false := by simp; omega
    have e29 : (k == 29) = true := by simp; omega
    go_wp2_with fail
    exact bodyPost_ret (v := .agg #[.int .i64 14, .int .i64 0, .int .i64 0, .int .i64 0]) (by simp [results, Tryd.results41, go_sem, c0, c1, c2, c3]) rfl ⟨⟨14, 0, 0, 0⟩, rfl, ok_yield, (FIN.out _ _ _ _).1, (FIN.out _ _ _ _).2⟩
  · have e12 : (k == 12) = false := by simp; omega
    have e26 : (k == 26) = true := by simp; omega
    have e29 : (k == 29) = false := by simp; omega
    go_wp2_with fail
    exact bodyPost_ret (v := .agg #[.int .i64 2, .int .i64 r, .int .i64 r, .int .i64 s]) (by simp [results, Tryd.results41, go_sem, c0, c1, c2, c3]) rfl ⟨⟨2, r, r, s⟩, rfl, ok_op (by decide) hr2 hr2 hs2, (FIN.out _ _ _ _).1, (FIN.out _ _ _ _).2⟩
  · have e12 : (k == 12) = false := by simp; omega
    have e26 : (k == 26) = false := by simp; omega
    have e29 : (k == 29) = false := by simp; omega
    go_wp2_with fail
    exact bodyPost_ret (v := .agg #[.int .i64 2, .int .i64 r, .int .i64 r, .int .i64 s]) (by simp [results, Tryd.results41, go_sem, c0, c1, c2, c3]) rfl ⟨⟨2, r, r, s⟩, rfl, ok_op (by decide) hr2 hr2 hs2, (FIN.out _ _ _ _).1, (FIN.out _ _ _ _).2⟩
  · have e12 : (k == 12) = false := by simp; omega
    have e26 : (k == 26) = false := by simp; omega
    have e29 : (k == 29) = false := by simp; omega
    go_wp2_with fail
    exact bodyPost_ret (v := .agg #[.int .i64 2, .int .i64 r, .int .i64 r, .int .i64 s]) (by simp [results, Tryd.results41, go_sem, c0, c1, c2, c3]) rfl ⟨⟨2, r, r, s⟩, rfl, ok_op (by decide) hr2 hr2 hs2, (FIN.out _ _ _ _).1, (FIN.out _ _ _ _).2⟩
end Go.Proofs.YtdpagipbaddnfaaDoor.C2