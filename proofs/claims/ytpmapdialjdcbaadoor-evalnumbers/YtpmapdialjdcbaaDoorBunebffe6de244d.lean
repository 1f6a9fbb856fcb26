/-
  Helpers: C2Shape, K6KA, K6KC, K6KE.
-/
import Derived.Test.YtpmapdialjdcbaaDoorRows
import Derived.WalkKit
import Derived.Deep.QuietTactic
import Derived.BigQuiet
import Derived.Test.YtpmapdialjdcbaaDoorBun62241be7436d
import Derived.Test.YtpmapdialjdcbaaDoorBun679e11fb756f
namespace Go.Proofs.YtpmapdialjdcbaaDoor.C2
open Go.RowKit

def lastsT : List Int := [0, 0, 0, 7, 2147483647, 0, 7, 7, 7, 7, 7, 7, 7, 7, 7, 7, 7, 7, 7, 7, 7, 39, 0, 0, 7, 39, 0, 3, 11, 7, 7, 3, 0, 15, 7, 0, 7, 15, 0, 3, 0, 0, 0, 0, 0, 7, 0, 0]
/-- the package's table, in memory -/
def Tab (w : World) : Prop := ∀ i : Nat, i < 48 → w.cell? ⟨0, i, none⟩ = some (.int .i64 (lastsT.getD i 0))
def lastOf (o k : Int) : Int := lastsT.getD (3 * o.toNat + k.toNat) 0
def firstOf (l : Int) : Int := if l = 2147483647 then -2147483648 else 0
def inB (v lo hi : Int) : Bool := decide (lo ≤ v) && decide (v ≤ hi)
def shapeB (o a b c : Int) : Bool := inB o 1 15 && inB a (firstOf (lastOf o 0)) (lastOf o 0) && inB b (firstOf (lastOf o 1)) (lastOf o 1) && inB c (firstOf (lastOf o 2)) (lastOf o 2)

theorem within_any (v lo hi : Int) (w : World) : Calls Tryd.prog 61 #[.int .i64 v, .int .i64 lo, .int .i64 hi] w fun e w' => e = .returned (.bool (inB v lo hi)) ∧ w' = w := by
  by_cases h1 : lo ≤ v
  · by_cases h2 : v ≤ hi
    · have e : inB v lo hi = true := by simp [inB, h1, h2]
      rw [e]
      clear e
      go_enter Tryd.func61, Tryd.ntmps61
      go_wp2
      go_ret
      exact ⟨rfl, rfl⟩
    · have e : inB v lo hi = false := by simp [inB, h2]
      have h3 : decide (v ≤ hi) = false := by simpa using h2
      rw [e]
      clear e
      go_enter Tryd.func61, Tryd.ntmps61
      go_wp2
      go_ret
      exact ⟨rfl, rfl⟩
  · have e : inB v lo hi = false := by simp [inB, h1]
    have h3 : decide (lo ≤ v) = false := by simpa using h1
    rw [e]
    clear e
    go_enter Tryd.func61, Tryd.ntmps61
    go_wp2
    go_ret
    exact ⟨rfl, rfl⟩
theorem first_any (l : Int) (w : World) : Calls Tryd.prog 80 #[.int .i64 l] w fun e w' => e = .returned (.int .i64 (firstOf l)) ∧ w' = w := by
  by_cases h : l = 2147483647
  · have e : firstOf l = -2147483648 := if_pos h
    have h2 : (l == 2147483647) = true := by simp [h]
    rw [e]
    clear e h
    go_enter Tryd.func80, Tryd.ntmps80
    go_wp2
    go_ret
    exact ⟨rfl, rfl⟩
  · have e : firstOf l = 0 := if_neg h
    have h2 : (l == 2147483647) = false := by simp [h]
    rw [e]
    clear e h
    go_enter Tryd.func80, Tryd.ntmps80
    go_wp2
    go_ret
    exact ⟨rfl, rfl⟩
def ptrs (b o : Nat) : Array Value := #[.pointer (some ⟨b, o + 1, none⟩), .pointer (some ⟨b, o + 2, none⟩), .pointer (some ⟨b, o + 3, none⟩)]
theorem fields_any (b o : Nat) (w : World) :
    Calls Tryd.prog 63 #[.pointer (some ⟨b, o, none⟩)] w fun e w' => e = .returned (.agg #[.pointer (some ⟨b, o + 1, none⟩), .pointer (some ⟨b, o + 2, none⟩), .pointer (some ⟨b, o + 3, none⟩)]) ∧ w' = (w.alloc (.cells #[.pointer (some ⟨b, o + 1, none⟩), .pointer (some ⟨b, o + 2, none⟩), .pointer (some ⟨b, o + 3, none⟩)] 110)).drew := by
  go_enter Tryd.func63, Tryd.ntmps63
  go_wp2
  go_region
  go_wp2
  exact bodyPost_ret (v := .agg #[.pointer (some ⟨b, o + 1, none⟩), .pointer (some ⟨b, o + 2, none⟩), .pointer (some ⟨b, o + 3, none⟩)]) (by simp [results, Tryd.results63, go_sem]) rfl ⟨rfl, rfl⟩

theorem lasts_at (o : Int) (k : Nat) (h1 : 1 ≤ o) (h2 : o ≤ 15) (hk : k < 3) {w : World} (hT : Tab w) : w.cell? ⟨0, o.toNat * 3 + k, none⟩ = some (.int .i64 (lastOf o k)) := by
  have := hT (o.toNat * 3 + k) (by omega)
  rw [this]
  unfold lastOf
  congr 4
  omega
structure Boxed (w : World) (g : Nat) (o a b c : Int) : Prop where
  c0 : w.cell? ⟨g, 0, none⟩ = some (.int .i64 o)
  c1 : w.cell? ⟨g, 1, none⟩ = some (.int .i64 a)
  c2 : w.cell? ⟨g, 2, none⟩ = some (.int .i64 b)
  c3 : w.cell? ⟨g, 3, none⟩ = some (.int .i64 c)
theorem boxed_drewN {w : World} {g : Nat} {o a b c : Int} (h : Boxed w g o a b c) (n : Nat) : Boxed (w.drewN n) g o a b c := ⟨h.c0, h.c1, h.c2, h.c3⟩
theorem below_drewN {B : Nat} {a w : World} (h : Below B a w) (n : Nat) : Below B a (w.drewN n) := ⟨h.os, h.tape, h.output, h.size, h.block⟩
theorem tab_drewN {w : World} (h : Tab w) (n : Nat) : Tab (w.drewN n) := h
theorem Tab.pos {w : World} (h : Tab w) : 0 < w.heap.size := block_lt_of_cell (h 0 (by omega))
theorem Tab.below {w w' : World} (h : Tab w) (hb : Below w.heap.size w w') : Tab w' := fun i hi => by rw [hb.cell (p := ⟨0, i, none⟩) h.pos]; exact h i hi
theorem Below.made (w : World) (x y : Obj) : Below w.heap.size w ((w.alloc x).alloc y).drew := (((Below.refl _ _).alloc (Nat.le_refl _) _).alloc (by simp) _).drew
theorem boxed_made (w : World) (o a b c : Int) (y : Obj) : Boxed ((w.alloc (.cells #[.int .i64 o, .int .i64 a, .int .i64 b, .int .i64 c] 54)).alloc y).drew w.heap.size o a b c := by
  constructor <;> simp
theorem ret_bool {a b : Bool} (h : a = b) : Ending.returned (.bool a) = .returned (.bool b) := by rw [h]
def fieldAt (a b c : Int) (j : Nat) : Int := if j = 0 then a else if j = 1 then b else c
theorem shape_no {o a b c : Int} (k : Nat) (hk : k < 3) (h : inB (fieldAt a b c k) (firstOf (lastOf o k)) (lastOf o k) = false) : shapeB o a b c = false := by
  rcases (by omega : k = 0 ∨ k = 1 ∨ k = 2) with rfl | rfl | rfl <;> simp [fieldAt] at h <;> simp [shapeB, h]
theorem shape_yes {o a b c : Int} (h1 : 1 ≤ o) (h2 : o ≤ 15) (h : ∀ j : Nat, j < 3 → inB (fieldAt a b c j) (firstOf (lastOf o j)) (lastOf o j) = true) : shapeB o a b c = true := by
  have e0 : inB o 1 15 = true := by simp [inB, h1, h2]
  have a0 := h 0 (by omega)
  have a1 := h 1 (by omega)
  have a2 := h 2 (by omega)
  simp [fieldAt] at a0 a1 a2
  simp [shapeB, e0, a0, a1, a2]
set_option maxHeartbeats 400000 in
theorem shape_any (o a b c : Int) (w : World) (hT : Tab w) : Calls Tryd.prog 60 #[.agg #[.int .i64 o, .int .i64 a, .int .i64 b, .int .i64 c]] w fun e w' => e = .returned (.bool (shapeB o a b c)) ∧ Below w.heap.size w w' := by
  by_cases ho : 1 ≤ o ∧ o ≤ 15
  · have e0 : inB o 1 15 = true := by simp [inB, ho]
    obtain ⟨h1, h2⟩ := ho
    have hz : 0 < w.heap.size := hT.pos
    go_enter Tryd.func60, Tryd.ntmps60
    go_wp2_with (first | (go_at_call 61; refine (within_any _ _ _ _).mono ?_; rintro e w' ⟨rfl, rfl⟩) | (go_at_call 63; refine (fields_any _ _ _).mono ?_; rintro e w' ⟨rfl, rfl⟩))
    go_loopw [11] (fun i wr => ∃ k : Nat, k ≤ 3 ∧ i = .int .i64 k ∧ (∀ j : Nat, j < k → inB (fieldAt a b c j) (firstOf (lastOf o j)) (lastOf o j) = true) ∧ Boxed wr w.heap.size o a b c ∧ Tab wr ∧ Below w.heap.size w wr)
      (fun i _ => 3 - (intOf i).toNat)
    case atStart => exact ⟨0, by omega, rfl, by omega, boxed_made w o a b c _, (hT.below (Below.made w _ _)), Below.made w _ _⟩
    case round =>
      obtain ⟨k, hk, rfl, hall, ⟨c0, c1, c2, c3⟩, hTr, hB⟩ := hrel
      rcases (by omega : k = 0 ∨ k = 1 ∨ k = 2 ∨ k = 3) with rfl | rfl | rfl | rfl
      · have hl : wr.cell? ⟨0, o.toNat * 3, none⟩ = some (.int .i64 (lastOf o 0)) := by simpa using lasts_at o 0 h1 h2 (by omega) hTr
        have hx : ∀ wx : World, (Instr.index 110 (.agg #[.pointer (some ⟨w.heap.size, 1, none⟩), .pointer (some ⟨w.heap.size, 2, none⟩), .pointer (some ⟨w.heap.size, 3, none⟩)]) (.int .i64 0)).run Tryd.prog wx = .ok (.pointer (some ⟨w.heap.size, 1, none⟩)) wx := fun _ => by kernel_rfl
        by_cases hv : inB a (firstOf (lastOf o 0)) (lastOf o 0) = true
        · go_wp2
          go_quiet ((first | (go_at_call 80; exact Calls.quiet_of_same (first_any _ _)) | (go_at_call 61; exact Calls.quiet_of_same (within_any _ _ _ _))))
          go_wp2
          go_roundw
          case rel => exact ⟨1, by omega, rfl, fun j hj => by rcases (by omega : j < 0 ∨ j = 0) with h | rfl; exact hall j h; exact hv, boxed_drewN ⟨c0, c1, c2, c3⟩ nq, tab_drewN hTr nq, below_drewN hB nq⟩
          case measure => simp [intOf]
        · rw [Bool.not_eq_true] at hv
          go_wp2
          go_quiet ((first | (go_at_call 80; exact Calls.quiet_of_same (first_any _ _)) | (go_at_call 61; exact Calls.quiet_of_same (within_any _ _ _ _))))
          go_wp2
          go_ret
          exact ⟨ret_bool (shape_no 0 (by omega) hv).symm, below_drewN hB nq⟩
      · have hl : wr.cell? ⟨0, o.toNat * 3 + 1, none⟩ = some (.int .i64 (lastOf o 1)) := by simpa using lasts_at o 1 h1 h2 (by omega) hTr
        have hx : ∀ wx : World, (Instr.index 110 (.agg #[.pointer (some ⟨w.heap.size, 1, none⟩), .pointer (some ⟨w.heap.size, 2, none⟩), .pointer (some ⟨w.heap.size, 3, none⟩)]) (.int .i64 1)).run Tryd.prog wx = .ok (.pointer (some ⟨w.heap.size, 2, none⟩)) wx := fun _ => by kernel_rfl
        by_cases hv : inB b (firstOf (lastOf o 1)) (lastOf o 1) = true
        · go_wp2
          go_quiet ((first | (go_at_call 80; exact Calls.quiet_of_same (first_any _ _)) | (go_at_call 61; exact Calls.quiet_of_same (within_any _ _ _ _))))
          go_wp2
          go_roundw
          case rel => exact ⟨2, by omega, rfl, fun j hj => by rcases (by omega : j < 1 ∨ j = 1) with h | rfl; exact hall j h; exact hv, boxed_drewN ⟨c0, c1, c2, c3⟩ nq, tab_drewN hTr nq, below_drewN hB nq⟩
          case measure => simp [intOf]
        · rw [Bool.not_eq_true] at hv
          go_wp2
          go_quiet ((first | (go_at_call 80; exact Calls.quiet_of_same (first_any _ _)) | (go_at_call 61; exact Calls.quiet_of_same (within_any _ _ _ _))))
          go_wp2
          go_ret
          exact ⟨ret_bool (shape_no 1 (by omega) hv).symm, below_drewN hB nq⟩
      · have hl : wr.cell? ⟨0, o.toNat * 3 + 2, none⟩ = some (.int .i64 (lastOf o 2)) := by simpa using lasts_at o 2 h1 h2 (by omega) hTr
        have hx : ∀ wx : World, (Instr.index 110 (.agg #[.pointer (some ⟨w.heap.size, 1, none⟩), .pointer (some ⟨w.heap.size, 2, none⟩), .pointer (some ⟨w.heap.size, 3, none⟩)]) (.int .i64 2)).run Tryd.prog wx = .ok (.pointer (some ⟨w.heap.size, 3, none⟩)) wx := fun _ => by kernel_rfl
        by_cases hv : inB c (firstOf (lastOf o 2)) (lastOf o 2) = true
        · go_wp2
          go_quiet ((first | (go_at_call 80; exact Calls.quiet_of_same (first_any _ _)) | (go_at_call 61; exact Calls.quiet_of_same (within_any _ _ _ _))))
          go_wp2
          go_roundw
          case rel => exact ⟨3, by omega, rfl, fun j hj => by rcases (by omega : j < 2 ∨ j = 2) with h | rfl; exact hall j h; exact hv, boxed_drewN ⟨c0, c1, c2, c3⟩ nq, tab_drewN hTr nq, below_drewN hB nq⟩
          case measure => simp [intOf]
        · rw [Bool.not_eq_true] at hv
          go_wp2
          go_quiet ((first | (go_at_call 80; exact Calls.quiet_of_same (first_any _ _)) | (go_at_call 61; exact Calls.quiet_of_same (within_any _ _ _ _))))
          go_wp2
          go_ret
          exact ⟨ret_bool (shape_no 2 (by omega) hv).symm, below_drewN hB nq⟩
      · go_wp2
        go_ret
        exact ⟨ret_bool (shape_yes h1 h2 hall).symm, hB⟩
  · have e0 : inB o 1 15 = false := by simp only [inB]; rw [Bool.and_eq_false_iff]; simp; omega
    have e1 : shapeB o a b c = false := by simp [shapeB, e0]
    rw [e1]
    clear e1
    go_enter Tryd.func60, Tryd.ntmps60
    go_wp2_with (first | (go_at_call 61; refine (within_any _ _ _ _).mono ?_; rintro e w' ⟨rfl, rfl⟩))
    go_ret
    exact ⟨rfl, (Below.refl _ _).alloc (Nat.le_refl _) _⟩
end Go.Proofs.YtpmapdialjdcbaaDoor.C2
namespace Go.Proofs.YtpmapdialjdcbaaDoor.K6
open Go.RowKit

theorem and1023 (n : Int) : bits .and .i64 n 1023 = n % 1024 := by
  have hm : (BitVec.ofInt 64 1023).toNat = 2 ^ 10 - 1 := by decide
  have key : (BitVec.ofInt 64 n &&& BitVec.ofInt 64 1023).toNat = (n % ((2 ^ 64 : Nat) : Int)).toNat % 2 ^ 10 := by
    rw [BitVec.toNat_and, BitVec.toNat_ofInt, hm, Nat.and_two_pow_sub_one_eq_mod]
  show IntKind.i64.wrap ((BitVec.ofInt 64 n &&& BitVec.ofInt 64 1023).toNat : Nat) = n % 1024
  rw [key, IntKind.wrap_i64]
  omega
theorem ret_i64 {a b : Int} (h : a = b) : Ending.returned (.int .i64 a) = .returned (.int .i64 b) := by rw [h]
/-- how far a digit is moved -/
def sh (i : Nat) : Int := 10 * (5 - (i : Int))
theorem sh_bd {i : Nat} (h : i ≤ 5) : 0 ≤ sh i ∧ sh i ≤ 50 := by unfold sh; omega
theorem sh_pow : ∀ {i : Nat}, i ≤ 5 → (2 : Int) ^ (sh i).toNat = wd i
  | 0, _ => by decide
  | 1, _ => by decide
  | 2, _ => by decide
  | 3, _ => by decide
  | 4, _ => by decide
  | 5, _ => by decide
  | _ + 6, h => by omega
def inI (k : Int) : Prop := -9223372036854775808 ≤ k ∧ k ≤ 9223372036854775807
theorem up_bd {k : Int} (h : inI k) : ∀ i : Nat, i ≤ 5 → inI (k / wd i * wd i) := by
  intro i hi
  obtain ⟨h1, h2⟩ := h
  match i, hi with
  | 0, _ => simp only [wd, inI]; omega
  | 1, _ => simp only [wd, inI]; omega
  | 2, _ => simp only [wd, inI]; omega
  | 3, _ => simp only [wd, inI]; omega
  | 4, _ => simp only [wd, inI]; omega
  | 5, _ => simp only [wd, inI]; omega
theorem wrap_in {k : Int} (h : inI k) : IntKind.i64.wrap k = k := by
  obtain ⟨h1, h2⟩ := h
  rw [IntKind.wrap_i64]
  omega

theorem shift_any (i : Nat) (d : Int) (hd : d = (i : Int)) (hi : i ≤ 5) (w : World) : Calls Tryd.prog 93 #[.int .i64 d] w fun e w' => e = .returned (.int .i64 (sh i)) ∧ w' = w := by
  subst hd
  go_enter Tryd.func93, Tryd.ntmps93
  go_wp2
  go_ret
  exact ⟨ret_i64 (by unfold sh; omega), rfl⟩
theorem forks_any (k : Int) (w : World) : Calls Tryd.prog 94 #[.int .i64 k] w fun e w' => e = .returned (.func (.func 96) #[] #[.pointer (some ⟨w.heap.size, 0, none⟩)]) ∧ w' = w.alloc (.cells #[.int .i64 k] 3) := by
  go_enter Tryd.func94, Tryd.ntmps94
  go_wp2
  go_ret
  exact ⟨rfl, rfl⟩
theorem fork_any (k : Int) (g : Nat) (i : Nat) (d : Int) (hd : d = (i : Int)) (hi : i ≤ 5) (w : World) (hc : w.cell? ⟨g, 0, none⟩ = some (.int .i64 k)) :
    Calls Tryd.prog 96 #[.int .i64 d, .pointer (some ⟨g, 0, none⟩)] w fun e w' => e = .returned (.int .i64 (dg k i)) ∧ ∃ m, w' = w.drewN m := by
  obtain ⟨s1, s2⟩ := sh_bd hi
  have hp := sh_pow hi
  have hm := and1023 (k / wd i)
  have hs := fun wx => shift_any i d hd hi wx
  clear hd
  go_enter Tryd.func96, Tryd.ntmps96
  go_wp2_with fail
  go_quiet ((go_at_call 93; exact Calls.quiet_of_same (hs _)))
  go_wp2
  go_ret
  exact ⟨rfl, _, rfl⟩
theorem upTo_any (k : Int) (hk : inI k) (i : Nat) (d : Int) (hd : d = (i : Int)) (hi : i ≤ 5) (w : World) :
    Calls Tryd.prog 95 #[.int .i64 k, .int .i64 d] w fun e w' => e = .returned (.int .i64 (k / wd i * wd i)) ∧ ∃ m, w' = w.drewN m := by
  obtain ⟨s1, s2⟩ := sh_bd hi
  have hp := sh_pow hi
  have hw := wrap_in (up_bd hk i hi)
  have hs := fun wx => shift_any i d hd hi wx
  clear hd hk
  go_enter Tryd.func95, Tryd.ntmps95
  go_wp2_with fail
  go_quiet ((go_at_call 93; exact Calls.quiet_of_same (hs _)))
  go_wp2
  go_ret
  exact ⟨rfl, _, rfl⟩
theorem digit_any (k : Int) (i : Nat) (d : Int) (hd : d = (i : Int)) (hi : i ≤ 5) (w : World) :
    Calls Tryd.prog 90 #[.int .i64 k, .int .i64 d] w fun e w' => e = .returned (.int .i64 (dg k i)) ∧ w' = w := by
  have hp : (2 : Int) ^ (50 - 10 * (i : Int)).toNat = wd i := by
    have := sh_pow hi
    rw [show (50 - 10 * (i : Int)) = sh i by unfold sh; omega]
    exact this
  have hm := and1023 (k / wd i)
  subst hd
  go_enter Tryd.func90, Tryd.ntmps90
  go_wp2
  go_ret
  exact ⟨ret_i64 rfl, rfl⟩
end Go.Proofs.YtpmapdialjdcbaaDoor.K6
namespace Go.Proofs.YtpmapdialjdcbaaDoor.K6
open Go.RowKit

theorem below_drewN {B : Nat} {w w' : World} (h : Below B w w') (n : Nat) : Below B w (w'.drewN n) := ⟨h.os, h.tape, h.output, h.size, h.block⟩
theorem below_alloc {w w' : World} (h : Below w.heap.size w w') (o : Obj) : Below w.heap.size w (w'.alloc o) := h.alloc h.size o
theorem below_then {w w1 w2 : World} (h1 : Below w.heap.size w w1) (h2 : Below w1.heap.size w1 w2) : Below w.heap.size w w2 := h1.trans (h2.mono h1.size)
/-- what measure leaves -/
def MesPost (k : Int) (w : World) (e : Ending) (w' : World) : Prop := e = .returned (.tuple #[.int .i64 (dpN k), .bool (okK k)]) ∧ Below w.heap.size w w'
theorem mes_no {k : Int} (h : ¬ isK k) : (Ending.returned (.tuple #[.int .i64 0, .bool false]) : Ending) = .returned (.tuple #[.int .i64 (dpN k), .bool (okK k)]) := by
  rw [dpN, if_neg h, okK, decide_eq_false h]
  rfl
theorem mes_yes {k : Int} {i : Nat} (h : isK k) (hd : (ofK k).dep = i) : (Ending.returned (.tuple #[.int .i64 (i : Int), .bool true]) : Ending) = .returned (.tuple #[.int .i64 (dpN k), .bool (okK k)]) := by
  rw [dpN, if_pos h, okK, decide_eq_true h, hd]
set_option maxHeartbeats 1000000 in
theorem measure_any (k : Int) (hk : inI k) (w : World) : Calls Tryd.prog 92 #[.int .i64 k] w (MesPost k w) := by
  have h50 : (2 : Int) ^ (sh 0).toNat = 1125899906842624 := sh_pow (by omega)
  have hs0 := sh_bd (i := 0) (by omega)
  by_cases hr : 1125899906842624 ≤ k ∧ k < 2251799813685248
  · have hq : k / 1125899906842624 = 1 := by omega
    have hbx := below_alloc (Below.refl w.heap.size w) (.cells #[.int .i64 k] 3)
    have hcx : (w.alloc (.cells #[.int .i64 k] 3)).cell? ⟨w.heap.size, 0, none⟩ = some (.int .i64 k) := by simp
    go_enter Tryd.func92, Tryd.ntmps92
    go_wp2_with fail
    refine (shift_any 0 _ rfl (by omega) _).mono ?_
    rintro e w1 ⟨rfl, rfl⟩
    go_wp2_with fail
    refine (forks_any k _).mono ?_
    rintro e w2 ⟨rfl, hw2⟩
    rw [← hw2] at hbx hcx
    clear hw2 hq h50 hs0
    go_wp2_with fail
    go_loopw [5] (fun dv wr => ∃ i : Nat, i ≤ 5 ∧ dv = .int .i64 i ∧ DgOk k i ∧ Below w1.heap.size w1 wr ∧ wr.cell? ⟨w1.heap.size, 0, none⟩ = some (.int .i64 k)) (fun dv _ => 5 - (intOf dv).toNat)
    case atStart => exact ⟨0, by omega, rfl, DgOk.zero k, hbx, hcx⟩
    case round =>
      obtain ⟨i, hi, rfl, hD, hB, hC⟩ := hrel
      clear hbx hcx
      by_cases h5 : i < 5
      · go_wp2_with fail
        refine (fork_any k _ (i + 1) _ (by omega) (by omega) _ hC).mono ?_
        rintro e w3 ⟨rfl, m0, rfl⟩
        replace hB := below_drewN hB m0
        replace hC : (wr.drewN m0).cell? ⟨w1.heap.size, 0, none⟩ = some (.int .i64 k) := hC
        generalize wr.drewN m0 = W2 at *
        by_cases hz : 0 < dg k (i + 1)
        · go_wp2_with fail
          refine (fork_any k _ (i + 1) _ (by omega) (by omega) _ hC).mono ?_
          rintro e w3 ⟨rfl, m1, rfl⟩
          replace hB := below_drewN hB m1
          replace hC : (W2.drewN m1).cell? ⟨w1.heap.size, 0, none⟩ = some (.int .i64 k) := hC
          generalize W2.drewN m1 = W3 at *
          by_cases hg : 1000 < dg k (i + 1)
          · have HN : Hid (¬ isK k) := big_no (by omega) (by omega) hg
            clear hD hr
            go_wp2_with fail
            exact bodyPost_ret (v := .tuple #[.int .i64 0, .bool false]) (by simp [results, Tryd.results92, go_sem]) rfl ⟨mes_no HN.out, hB⟩
          · have HD : Hid (DgOk k (i + 1)) := hD.next (by omega) (by omega)
            clear hD hr
            go_wp2_with fail
            go_roundw
            case rel => exact ⟨i + 1, by omega, by go_num, HD.out, hB, hC⟩
            case measure => simp [intOf]; omega
        · have h0 := (dig_bd k (i + 1)).1
          rcases mes_key hi hr.1 hr.2 hD (by omega) with ⟨m1, m2⟩
          clear hD hr
          go_wp2_with fail
          refine (upTo_any k hk i _ rfl hi _).mono ?_
          rintro e w3 ⟨rfl, m, rfl⟩
          have hB3 := below_drewN hB m
          by_cases he : k / wd i * wd i = k
          · have HY : Hid (isK k) := m1.2 he
            have HD : Hid ((ofK k).dep = i) := m2 (m1.2 he)
            have he2 : (k / wd i * wd i == k) = true := by simp [he]
            clear m1 m2 he
            go_wp2_with fail
            exact bodyPost_ret (v := .tuple #[.int .i64 (i : Int), .bool true]) (by simp [results, Tryd.results92, go_sem]) rfl ⟨mes_yes HY.out HD.out, hB3⟩
          · have HN : Hid (¬ isK k) := fun h => he (m1.1 h)
            have he2 : (k / wd i * wd i == k) = false := by simp [he]
            clear m1 m2 he
            go_wp2_with fail
            exact bodyPost_ret (v := .tuple #[.int .i64 0, .bool false]) (by simp [results, Tryd.results92, go_sem]) rfl ⟨mes_no HN.out, hB3⟩
      · obtain rfl : i = 5 := by omega
        rcases mes_key hi hr.1 hr.2 hD (by omega) with ⟨m1, m2⟩
        clear hD hr
        go_wp2_with fail
        refine (upTo_any k hk 5 _ rfl hi _).mono ?_
        rintro e w3 ⟨rfl, m, rfl⟩
        have hB3 := below_drewN hB m
        by_cases he : k / wd 5 * wd 5 = k
        · have HY : Hid (isK k) := m1.2 he
          have HD : Hid ((ofK k).dep = 5) := m2 (m1.2 he)
          have he2 : (k / wd 5 * wd 5 == k) = true := by simp [he]
          clear m1 m2 he
          go_wp2_with fail
          exact bodyPost_ret (v := .tuple #[.int .i64 5, .bool true]) (by simp [results, Tryd.results92, go_sem]) rfl ⟨mes_yes (i := 5) HY.out HD.out, hB3⟩
        · have HN : Hid (¬ isK k) := fun h => he (m1.1 h)
          have he2 : (k / wd 5 * wd 5 == k) = false := by simp [he]
          clear m1 m2 he
          go_wp2_with fail
          exact bodyPost_ret (v := .tuple #[.int .i64 0, .bool false]) (by simp [results, Tryd.results92, go_sem]) rfl ⟨mes_no HN.out, hB3⟩
  · have hq : (k / 1125899906842624 == 1) = false := by simp; omega
    have hn : ¬ isK k := fun h => hr ⟨h.1, h.2.1⟩
    clear hr
    go_enter Tryd.func92, Tryd.ntmps92
    go_wp2_with fail
    refine (shift_any 0 _ rfl (by omega) _).mono ?_
    rintro e w1 ⟨rfl, rfl⟩
    go_wp2_with fail
    exact bodyPost_ret (v := .tuple #[.int .i64 0, .bool false]) (by simp [results, Tryd.results92, go_sem]) rfl ⟨mes_no hn, Below.refl _ _⟩
end Go.Proofs.YtpmapdialjdcbaaDoor.K6
namespace Go.Proofs.YtpmapdialjdcbaaDoor.K6
open Go.RowKit

theorem inI_ok {k : Int} (h : okK k = true) : inI k := by
  have := ok_bd h
  unfold inI
  omega
theorem Depth_any (k : Int) (hk : inI k) (w : World) : Calls Tryd.prog 87 #[.int .i64 k] w fun e w' => e = .returned (.int .i64 (dpN k)) ∧ Below w.heap.size w w' := by
  go_enter Tryd.func87, Tryd.ntmps87
  go_wp2_with fail
  refine (measure_any k hk _).mono ?_
  rintro e w1 ⟨rfl, hb⟩
  go_wp2_with fail
  go_ret
  exact ⟨rfl, hb⟩
/-- what Child leaves -/
def ChPost (k n : Int) (w : World) (e : Ending) (w' : World) : Prop := e = .returned (.tuple #[.int .i64 (chK k n), .bool (chO k n)]) ∧ Below w.heap.size w w'
theorem ch_no {k n : Int} (h : okK k = false ∨ dpN k = 5 ∨ n < 1 ∨ 1000 < n) : (Ending.returned (.tuple #[.int .i64 0, .bool false]) : Ending) = .returned (.tuple #[.int .i64 (chK k n), .bool (chO k n)]) := by
  obtain ⟨h1, h2⟩ := ch_not h
  rw [h1, h2]
theorem Child_any (k n : Int) (hk : inI k) (w : World) : Calls Tryd.prog 88 #[.int .i64 k, .int .i64 n] w (ChPost k n w) := by
  by_cases hno : okK k = false ∨ dpN k = 5 ∨ n < 1 ∨ 1000 < n
  · have HN : Hid ((Ending.returned (.tuple #[.int .i64 0, .bool false]) : Ending) = .returned (.tuple #[.int .i64 (chK k n), .bool (chO k n)])) := ch_no hno
    cases hok : okK k
    · clear hno
      go_enter Tryd.func88, Tryd.ntmps88
      go_wp2_with fail
      refine (measure_any k hk _).mono ?_
      rintro e w1 ⟨rfl, hb⟩
      rw [hok]
      clear hok
      go_wp2_with fail
      exact bodyPost_ret (v := .tuple #[.int .i64 0, .bool false]) (by simp [results, Tryd.results88, go_sem]) rfl ⟨HN.out, hb⟩
    · have hno2 : dpN k = 5 ∨ n < 1 ∨ 1000 < n := by
        rcases hno with h | h
        · rw [hok] at h; exact (Bool.false_ne_true h.symm).elim
        · exact h
      clear hno
      go_enter Tryd.func88, Tryd.ntmps88
      go_wp2_with fail
      refine (measure_any k hk _).mono ?_
      rintro e w1 ⟨rfl, hb⟩
      rw [hok]
      clear hok
      generalize dpN k = D at *
      by_cases hD : D = 5
      · subst hD
        clear hno2
        go_wp2_with fail
        exact bodyPost_ret (v := .tuple #[.int .i64 0, .bool false]) (by simp [results, Tryd.results88, go_sem]) rfl ⟨HN.out, hb⟩
      · have hD2 : ((D : Int) == 5) = false := by simp; omega
        by_cases hn : n < 1
        · clear hno2
          go_wp2_with fail
          exact bodyPost_ret (v := .tuple #[.int .i64 0, .bool false]) (by simp [results, Tryd.results88, go_sem]) rfl ⟨HN.out, hb⟩
        · have hn2 : 1000 < n := by omega
          clear hno2
          go_wp2_with fail
          exact bodyPost_ret (v := .tuple #[.int .i64 0, .bool false]) (by simp [results, Tryd.results88, go_sem]) rfl ⟨HN.out, hb⟩
  · have hok : okK k = true := by
      cases h : okK k
      · exact (hno (.inl h)).elim
      · rfl
    have hle := dpN_le k
    have hd : dpN k < 5 := by omega
    have h1 : 1 ≤ n := by omega
    have h2 : n ≤ 1000 := by omega
    obtain ⟨c1, c2, c3, c4⟩ := ch_yes hok hd h1 h2
    obtain ⟨b1, b2⟩ := ok_bd hok
    have HP : Hid (∀ w', Below w.heap.size w w' → ChPost k n w (.returned (.tuple #[.int .i64 (k + n * wd (dpN k + 1)), .bool true])) w') := fun w' h => ⟨by rw [c1, c2], h⟩
    clear c1 c2 hno
    go_enter Tryd.func88, Tryd.ntmps88
    go_wp2_with fail
    refine (measure_any k hk _).mono ?_
    rintro e w1 ⟨rfl, hb⟩
    rw [hok]
    clear hok hk
    generalize dpN k = D at *
    have hD2 : ((D : Int) == 5) = false := by simp; omega
    obtain ⟨s1, s2⟩ := sh_bd (i := D + 1) (by omega)
    have hp := sh_pow (i := D + 1) (by omega)
    have hn := wd_pos (D + 1)
    have hm : 0 ≤ n * wd (D + 1) := Int.mul_nonneg (by omega) (by omega)
    generalize hVd : n * wd (D + 1) = V at *
    have hV : wrap64 V = V := by unfold wrap64; omega
    go_wp2_with fail
    refine (shift_any (D + 1) _ (by omega) (by omega) _).mono ?_
    rintro e w2 ⟨rfl, rfl⟩
    go_wp2_with fail
    exact bodyPost_ret (v := .tuple #[.int .i64 (k + V), .bool true]) (by simp [results, Tryd.results88, go_sem]) rfl (HP.out _ hb)
/-- what Parent leaves -/
def PaPost (k : Int) (w : World) (e : Ending) (w' : World) : Prop := e = .returned (.tuple #[.int .i64 (paK k), .int .i64 (paN k), .bool (paO k)]) ∧ Below w.heap.size w w'
theorem PaPost.none {k : Int} (h : dpN k = 0) {w w' : World} (hb : Below w.heap.size w w') : PaPost k w (.returned (.tuple #[.int .i64 0, .int .i64 0, .bool false])) w' := by
  obtain ⟨h1, h2, h3⟩ := pa_not h
  exact ⟨by rw [h1, h2, h3], hb⟩
theorem ret_b {a b : Bool} (h : a = b) : Ending.returned (.bool a) = .returned (.bool b) := by rw [h]
end Go.Proofs.YtpmapdialjdcbaaDoor.K6
