/-
  Helpers: C2Shape.
-/
import Derived.Test.YtnhogbgnnnniaaaDoorRows
import Derived.WalkKit
import Derived.Deep.QuietTactic
import Derived.BigQuiet
namespace Go.Proofs.YtnhogbgnnnniaaaDoor.C2
open Go.RowKit

def lastsT : List Int := [0, 0, 0, 7, 2147483647, 0, 7, 7, 7, 7, 7, 7, 7, 7, 7, 7, 7, 7, 7, 7, 7, 39, 0, 0, 7, 39, 0, 3, 11, 7, 7, 3, 0, 15, 7, 0, 7, 15, 0, 3, 0, 0, 0, 0, 0, 7, 0, 0]
/-- the package's table, in memory -/
def Tab (w : World) : Prop := ∀ i : Nat, i < 48 → w.cell? ⟨1, i, none⟩ = some (.int .i64 (lastsT.getD i 0))
def lastOf (o k : Int) : Int := lastsT.getD (3 * o.toNat + k.toNat) 0
def firstOf (l : Int) : Int := if l = 2147483647 then -2147483648 else 0
def inB (v lo hi : Int) : Bool := decide (lo ≤ v) && decide (v ≤ hi)
def shapeB (o a b c : Int) : Bool := inB o 1 15 && inB a (firstOf (lastOf o 0)) (lastOf o 0) && inB b (firstOf (lastOf o 1)) (lastOf o 1) && inB c (firstOf (lastOf o 2)) (lastOf o 2)

theorem within_any (v lo hi : Int) (w : World) : Calls Tryd.prog 89 #[.int .i64 v, .int .i64 lo, .int .i64 hi] w fun e w' => e = .returned (.bool (inB v lo hi)) ∧ w' = w := by
  by_cases h1 : lo ≤ v
  · by_cases h2 : v ≤ hi
    · have e : inB v lo hi = true := by simp [inB, h1, h2]
      rw [e]
      clear e
      go_enter Tryd.func89, Tryd.ntmps89
      go_wp2
      go_ret
      exact ⟨rfl, rfl⟩
    · have e : inB v lo hi = false := by simp [inB, h2]
      have h3 : decide (v ≤ hi) = false := by simpa using h2
      rw [e]
      clear e
      go_enter Tryd.func89, Tryd.ntmps89
      go_wp2
      go_ret
      exact ⟨rfl, rfl⟩
  · have e : inB v lo hi = false := by simp [inB, h1]
    have h3 : decide (lo ≤ v) = false := by simpa using h1
    rw [e]
    clear e
    go_enter Tryd.func89, Tryd.ntmps89
    go_wp2
    go_ret
    exact ⟨rfl, rfl⟩
theorem first_any (l : Int) (w : World) : Calls Tryd.prog 98 #[.int .i64 l] w fun e w' => e = .returned (.int .i64 (firstOf l)) ∧ w' = w := by
  by_cases h : l = 2147483647
  · have e : firstOf l = -2147483648 := if_pos h
    have h2 : (l == 2147483647) = true := by simp [h]
    rw [e]
    clear e h
    go_enter Tryd.func98, Tryd.ntmps98
    go_wp2
    go_ret
    exact ⟨rfl, rfl⟩
  · have e : firstOf l = 0 := if_neg h
    have h2 : (l == 2147483647) = false := by simp [h]
    rw [e]
    clear e h
    go_enter Tryd.func98, Tryd.ntmps98
    go_wp2
    go_ret
    exact ⟨rfl, rfl⟩
def ptrs (b o : Nat) : Array Value := #[.pointer (some ⟨b, o + 1, none⟩), .pointer (some ⟨b, o + 2, none⟩), .pointer (some ⟨b, o + 3, none⟩)]
theorem fields_any (b o : Nat) (w : World) :
    Calls Tryd.prog 91 #[.pointer (some ⟨b, o, none⟩)] w fun e w' => e = .returned (.agg #[.pointer (some ⟨b, o + 1, none⟩), .pointer (some ⟨b, o + 2, none⟩), .pointer (some ⟨b, o + 3, none⟩)]) ∧ w' = (w.alloc (.cells #[.pointer (some ⟨b, o + 1, none⟩), .pointer (some ⟨b, o + 2, none⟩), .pointer (some ⟨b, o + 3, none⟩)] 137)).drew := by
  go_enter Tryd.func91, Tryd.ntmps91
  go_wp2
  go_region
  go_wp2
  exact bodyPost_ret (v := .agg #[.pointer (some ⟨b, o + 1, none⟩), .pointer (some ⟨b, o + 2, none⟩), .pointer (some ⟨b, o + 3, none⟩)]) (by simp [results, Tryd.results91, go_sem]) rfl ⟨rfl, rfl⟩

theorem lasts_at (o : Int) (k : Nat) (h1 : 1 ≤ o) (h2 : o ≤ 15) (hk : k < 3) {w : World} (hT : Tab w) : w.cell? ⟨1, o.toNat * 3 + k, none⟩ = some (.int .i64 (lastOf o k)) := by
  have := hT (o.toNat * 3 + k) (by omega)
  rw [this]
  unfold lastOf
  congr 4
  omega
structure Boxed (w : World) (g : Nat) (o a b c : Int) : Prop where
  c0 : w.cell? ⟨g, 0, none⟩ = some (.int .i64 o)
  c1 : w.cell? ⟨g, 1, none⟩ = some (.int .i64 a)
  c2 : w.cell? ⟨g, 2, none⟩ = some (.int .i64 b)
  c3 : w.cell? ⟨g, 3, none⟩ = some (.int .i64 c)
theorem boxed_drewN {w : World} {g : Nat} {o a b c : Int} (h : Boxed w g o a b c) (n : Nat) : Boxed (w.drewN n) g o a b c := ⟨h.c0, h.c1, h.c2, h.c3⟩
theorem below_drewN {B : Nat} {a w : World} (h : Below B a w) (n : Nat) : Below B a (w.drewN n) := ⟨h.os, h.tape, h.output, h.size, h.block⟩
theorem tab_drewN {w : World} (h : Tab w) (n : Nat) : Tab (w.drewN n) := h
theorem Tab.pos {w : World} (h : Tab w) : 1 < w.heap.size := block_lt_of_cell (h 0 (by omega))
theorem Tab.below {w w' : World} (h : Tab w) (hb : Below w.heap.size w w') : Tab w' := fun i hi => by rw [hb.cell (p := ⟨1, i, none⟩) h.pos]; exact h i hi
theorem Below.made (w : World) (x y : Obj) : Below w.heap.size w ((w.alloc x).alloc y).drew := (((Below.refl _ _).alloc (Nat.le_refl _) _).alloc (by simp) _).drew
theorem boxed_made (w : World) (o a b c : Int) (y : Obj) : Boxed ((w.alloc (.cells #[.int .i64 o, .int .i64 a, .int .i64 b, .int .i64 c] 42)).alloc y).drew w.heap.size o a b c := by
  constructor <;> simp
theorem ret_bool {a b : Bool} (h : a = b) : Ending.returned (.bool a) = .returned (.bool b) := by rw [h]
def fieldAt (a b c : Int) (j : Nat) : Int := if j = 0 then a else if j = 1 then b else c
theorem shape_no {o a b c : Int} (k : Nat) (hk : k < 3) (h : inB (fieldAt a b c k) (firstOf (lastOf o k)) (lastOf o k) = false) : shapeB o a b c = false := by
  rcases (by omega : k = 0 ∨ k = 1 ∨ k = 2) with rfl | rfl | rfl <;> simp [fieldAt] at h <;> simp [shapeB, h]
theorem shape_yes {o a b c : Int} (h1 : 1 ≤ o) (h2 : o ≤ 15) (h : ∀ j : Nat, j < 3 → inB (fieldAt a b c j) (firstOf (lastOf o j)) (lastOf o j) = true) : shapeB o a b c = true := by
  have e0 : inB o 1 15 = true := by simp [inB, h1, h2]
  have a0 := h 0 (by omega)
  have a1 := h 1 (by omega)
  have a2 := h 2 (by omega)
  simp [fieldAt] at a0 a1 a2
  simp [shapeB, e0, a0, a1, a2]
set_option maxHeartbeats 400000 in
theorem shape_any (o a b c : Int) (w : World) (hT : Tab w) : Calls Tryd.prog 88 #[.agg #[.int .i64 o, .int .i64 a, .int .i64 b, .int .i64 c]] w fun e w' => e = .returned (.bool (shapeB o a b c)) ∧ Below w.heap.size w w' := by
  by_cases ho : 1 ≤ o ∧ o ≤ 15
  · have e0 : inB o 1 15 = true := by simp [inB, ho]
    obtain ⟨h1, h2⟩ := ho
    have hz : 1 < w.heap.size := hT.pos
    go_enter Tryd.func88, Tryd.ntmps88
    go_wp2_with (first | (go_at_call 89; refine (within_any _ _ _ _).mono ?_; rintro e w' ⟨rfl, rfl⟩) | (go_at_call 91; refine (fields_any _ _ _).mono ?_; rintro e w' ⟨rfl, rfl⟩))
    go_loopw [11] (fun i wr => ∃ k : Nat, k ≤ 3 ∧ i = .int .i64 k ∧ (∀ j : Nat, j < k → inB (fieldAt a b c j) (firstOf (lastOf o j)) (lastOf o j) = true) ∧ Boxed wr w.heap.size o a b c ∧ Tab wr ∧ Below w.heap.size w wr)
      (fun i _ => 3 - (intOf i).toNat)
    case atStart => exact ⟨0, by omega, rfl, by omega, boxed_made w o a b c _, (hT.below (Below.made w _ _)), Below.made w _ _⟩
    case round =>
      obtain ⟨k, hk, rfl, hall, ⟨c0, c1, c2, c3⟩, hTr, hB⟩ := hrel
      rcases (by omega : k = 0 ∨ k = 1 ∨ k = 2 ∨ k = 3) with rfl | rfl | rfl | rfl
      · have hl : wr.cell? ⟨1, o.toNat * 3, none⟩ = some (.int .i64 (lastOf o 0)) := by simpa using lasts_at o 0 h1 h2 (by omega) hTr
        have hx : ∀ wx : World, (Instr.index 137 (.agg #[.pointer (some ⟨w.heap.size, 1, none⟩), .pointer (some ⟨w.heap.size, 2, none⟩), .pointer (some ⟨w.heap.size, 3, none⟩)]) (.int .i64 0)).run Tryd.prog wx = .ok (.pointer (some ⟨w.heap.size, 1, none⟩)) wx := fun _ => by kernel_rfl
        by_cases hv : inB a (firstOf (lastOf o 0)) (lastOf o 0) = true
        · go_wp2
          go_quiet ((first | (go_at_call 98; exact Calls.quiet_of_same (first_any _ _)) | (go_at_call 89; exact Calls.quiet_of_same (within_any _ _ _ _))))
          go_wp2
          go_roundw
          case rel => exact ⟨1, by omega, rfl, fun j hj => by rcases (by omega : j < 0 ∨ j = 0) with h | rfl; exact hall j h; exact hv, boxed_drewN ⟨c0, c1, c2, c3⟩ nq, tab_drewN hTr nq, below_drewN hB nq⟩
          case measure => simp [intOf]
        · rw [Bool.not_eq_true] at hv
          go_wp2
          go_quiet ((first | (go_at_call 98; exact Calls.quiet_of_same (first_any _ _)) | (go_at_call 89; exact Calls.quiet_of_same (within_any _ _ _ _))))
          go_wp2
          go_ret
          exact ⟨ret_bool (shape_no 0 (by omega) hv).symm, below_drewN hB nq⟩
      · have hl : wr.cell? ⟨1, o.toNat * 3 + 1, none⟩ = some (.int .i64 (lastOf o 1)) := by simpa using lasts_at o 1 h1 h2 (by omega) hTr
        have hx : ∀ wx : World, (Instr.index 137 (.agg #[.pointer (some ⟨w.heap.size, 1, none⟩), .pointer (some ⟨w.heap.size, 2, none⟩), .pointer (some ⟨w.heap.size, 3, none⟩)]) (.int .i64 1)).run Tryd.prog wx = .ok (.pointer (some ⟨w.heap.size, 2, none⟩)) wx := fun _ => by kernel_rfl
        by_cases hv : inB b (firstOf (lastOf o 1)) (lastOf o 1) = true
        · go_wp2
          go_quiet ((first | (go_at_call 98; exact Calls.quiet_of_same (first_any _ _)) | (go_at_call 89; exact Calls.quiet_of_same (within_any _ _ _ _))))
          go_wp2
          go_roundw
          case rel => exact ⟨2, by omega, rfl, fun j hj => by rcases (by omega : j < 1 ∨ j = 1) with h | rfl; exact hall j h; exact hv, boxed_drewN ⟨c0, c1, c2, c3⟩ nq, tab_drewN hTr nq, below_drewN hB nq⟩
          case measure => simp [intOf]
        · rw [Bool.not_eq_true] at hv
          go_wp2
          go_quiet ((first | (go_at_call 98; exact Calls.quiet_of_same (first_any _ _)) | (go_at_call 89; exact Calls.quiet_of_same (within_any _ _ _ _))))
          go_wp2
          go_ret
          exact ⟨ret_bool (shape_no 1 (by omega) hv).symm, below_drewN hB nq⟩
      · have hl : wr.cell? ⟨1, o.toNat * 3 + 2, none⟩ = some (.int .i64 (lastOf o 2)) := by simpa using lasts_at o 2 h1 h2 (by omega) hTr
        have hx : ∀ wx : World, (Instr.index 137 (.agg #[.pointer (some ⟨w.heap.size, 1, none⟩), .pointer (some ⟨w.heap.size, 2, none⟩), .pointer (some ⟨w.heap.size, 3, none⟩)]) (.int .i64 2)).run Tryd.prog wx = .ok (.pointer (some ⟨w.heap.size, 3, none⟩)) wx := fun _ => by kernel_rfl
        by_cases hv : inB c (firstOf (lastOf o 2)) (lastOf o 2) = true
        · go_wp2
          go_quiet ((first | (go_at_call 98; exact Calls.quiet_of_same (first_any _ _)) | (go_at_call 89; exact Calls.quiet_of_same (within_any _ _ _ _))))
          go_wp2
          go_roundw
          case rel => exact ⟨3, by omega, rfl, fun j hj => by rcases (by omega : j < 2 ∨ j = 2) with h | rfl; exact hall j h; exact hv, boxed_drewN ⟨c0, c1, c2, c3⟩ nq, tab_drewN hTr nq, below_drewN hB nq⟩
          case measure => simp [intOf]
        · rw [Bool.not_eq_true] at hv
          go_wp2
          go_quiet ((first | (go_at_call 98; exact Calls.quiet_of_same (first_any _ _)) | (go_at_call 89; exact Calls.quiet_of_same (within_any _ _ _ _))))
          go_wp2
          go_ret
          exact ⟨ret_bool (shape_no 2 (by omega) hv).symm, below_drewN hB nq⟩
      · go_wp2
        go_ret
        exact ⟨ret_bool (shape_yes h1 h2 hall).symm, hB⟩
  · have e0 : inB o 1 15 = false := by simp only [inB]; rw [Bool.and_eq_false_iff]; simp; omega
    have e1 : shapeB o a b c = false := by simp [shapeB, e0]
    rw [e1]
    clear e1
    go_enter Tryd.func88, Tryd.ntmps88
    go_wp2_with (first | (go_at_call 89; refine (within_any _ _ _ _).mono ?_; rintro e w' ⟨rfl, rfl⟩))
    go_ret
    exact ⟨rfl, (Below.refl _ _).alloc (Nat.le_refl _) _⟩
end Go.Proofs.YtnhogbgnnnniaaaDoor.C2
