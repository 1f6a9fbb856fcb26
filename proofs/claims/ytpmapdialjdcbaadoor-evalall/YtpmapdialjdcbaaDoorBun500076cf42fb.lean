/-
  Helpers: C2Boxes, C2Ref, C2Ref2.
-/
import Derived.Test.YtpmapdialjdcbaaDoorBun9e13d10761ad
import Derived.Test.YtpmapdialjdcbaaDoorBun1656f430e3f7
namespace Go.Proofs.YtpmapdialjdcbaaDoor.C2
open Go.RowKit

/-- a program in a box -/
structure BoxedP (w : World) (B : Nat) (fa : Option Addr) (fc : Nat) (p : Pr) : Prop where
  box : w.heap[B]? = some (.cells #[.slice fa p.fs.length fc, .int .i64 p.futs, .int .i64 p.depth, .int .i64 p.fuel] 24 (0, 0))
  fns : SlF w (.slice fa p.fs.length fc) p.fs
theorem BoxedP.kept {w w' : World} {B : Nat} {fa : Option Addr} {fc : Nat} {p : Pr} (h : BoxedP w B fa fc p) (hb : Below w.heap.size w w') : BoxedP w' B fa fc p :=
  ⟨(hb.block _ (lt_of_block h.box)).trans h.box, h.fns.kept hb⟩
theorem BoxedP.made {w : World} {fa : Option Addr} {fc : Nat} {p : Pr} (h : SlF w (.slice fa p.fs.length fc) p.fs) : BoxedP (w.alloc (.cells #[.slice fa p.fs.length fc, .int .i64 p.futs, .int .i64 p.depth, .int .i64 p.fuel] 24)) w.heap.size fa fc p :=
  ⟨heap_alloc_new _ _, h.kept ((Below.refl _ _).alloc (Nat.le_refl _) _)⟩
theorem BoxedP.cells {w : World} {B : Nat} {fa : Option Addr} {fc : Nat} {p : Pr} (h : BoxedP w B fa fc p) : w.cell? ⟨B, 0, none⟩ = some (.slice fa p.fs.length fc) ∧ w.cell? ⟨B, 1, none⟩ = some (.int .i64 p.futs) ∧ w.cell? ⟨B, 2, none⟩ = some (.int .i64 p.depth) ∧ w.cell? ⟨B, 3, none⟩ = some (.int .i64 p.fuel) :=
  ⟨by simp [cell_of_row _ _ _ _ _ _ h.box], by simp [cell_of_row _ _ _ _ _ _ h.box], by simp [cell_of_row _ _ _ _ _ _ h.box], by simp [cell_of_row _ _ _ _ _ _ h.box]⟩
theorem below_alloc {w w1 : World} (h : Below w.heap.size w w1) (o : Obj) : Below w.heap.size w (w1.alloc o) := h.alloc h.size _
theorem below_then {w w1 w2 : World} (h : Below w.heap.size w w1) (h2 : Below w1.heap.size w1 w2) : Below w.heap.size w w2 := h.trans (h2.mono h.size)
theorem Good.few' {p : Pr} (h : Good p) : p.fs.length ≤ 1000000 := by have := h.few; omega
theorem Good.small' {p : Pr} (h : Good p) : ∀ f ∈ p.fs, f.length ≤ 1000000 := fun f hf => by have := h.small f hf; omega
/-- Put of a program that may be put -/
theorem Put_own (p : Pr) (hp : Good p) (fv : Value) (w : World) (hT : Tab w) (hF : SlF w fv p.fs) :
    Calls Tryd.prog 29 #[.agg #[fv, .int .i64 p.futs, .int .i64 p.depth, .int .i64 p.fuel]] w fun e w' => e = .returned (.tuple #[.string (strB (putB p)), .int .i64 0]) ∧ Below w.heap.size w w' := by
  have h := Put_any p fv w hT hF hp.few' hp.small'
  rw [hp.code, hp.text] at h
  exact h
end Go.Proofs.YtpmapdialjdcbaaDoor.C2
namespace Go.Proofs.YtpmapdialjdcbaaDoor.C2
open Go.RowKit

def kindT : List Int := [0, 0, 0, 1, 6, 0, 1, 1, 1, 1, 1, 1, 1, 1, 1, 1, 1, 1, 1, 1, 1, 5, 0, 0, 1, 5, 0, 2, 4, 1, 1, 2, 0, 3, 1, 0, 1, 3, 0, 2, 0, 0, 0, 0, 0, 1, 0, 0]
def kindOf (o : Int) (k : Nat) : Int := if 1 ≤ o ∧ o ≤ 15 then kindT.getD (3 * o.toNat + k) 0 else 0
def mostOf (k : Int) : Int := if k = 0 then 1 else if k = 1 then 8 else if k = 2 then 4 else if k = 3 then 16 else if k = 4 then 12 else 40
def rightB (k v : Int) : Bool := if k = 6 then inB v (-2147483648) 2147483647 else decide (0 ≤ v) && decide (v < mostOf k)
theorem kinds_lit (o : Int) (k0 k1 k2 : Int) (w : World) (h : Calls Tryd.prog 75 #[.int .i64 o] w fun e w' => e = .returned (.agg #[.int .i64 k0, .int .i64 k1, .int .i64 k2]) ∧ Below w.heap.size w w') (e0 : kindOf o 0 = k0) (e1 : kindOf o 1 = k1) (e2 : kindOf o 2 = k2) :
    Calls Tryd.prog 75 #[.int .i64 o] w fun e w' => e = .returned (.agg #[.int .i64 (kindOf o 0), .int .i64 (kindOf o 1), .int .i64 (kindOf o 2)]) ∧ Below w.heap.size w w' := by
  rw [e0, e1, e2]
  exact h
set_option maxHeartbeats 1000000 in
theorem kinds_any (o : Int) (w : World) :
    Calls Tryd.prog 75 #[.int .i64 o] w fun e w' => e = .returned (.agg #[.int .i64 (kindOf o 0), .int .i64 (kindOf o 1), .int .i64 (kindOf o 2)]) ∧ Below w.heap.size w w' := by
  by_cases h : 1 ≤ o ∧ o ≤ 15
  · rcases (by omega : o = 1 ∨ o = 2 ∨ o = 3 ∨ o = 4 ∨ o = 5 ∨ o = 6 ∨ o = 7 ∨ o = 8 ∨ o = 9 ∨ o = 10 ∨ o = 11 ∨ o = 12 ∨ o = 13 ∨ o = 14 ∨ o = 15) with rfl | rfl | rfl | rfl | rfl | rfl | rfl | rfl | rfl | rfl | rfl | rfl | rfl | rfl | rfl
    · refine kinds_lit _ 1 6 0 _ ?_ (by decide) (by decide) (by decide)
      go_enter Tryd.func75, Tryd.ntmps75
      go_wp2
      exact bodyPost_ret (v := .agg #[.int .i64 1, .int .i64 6, .int .i64 0]) (by simp [results, Tryd.results75, go_sem]) rfl ⟨rfl, (Below.refl _ _).alloc (Nat.le_refl _) _⟩
    · refine kinds_lit _ 1 1 1 _ ?_ (by decide) (by decide) (by decide)
      go_enter Tryd.func75, Tryd.ntmps75
      go_wp2
      exact bodyPost_ret (v := .agg #[.int .i64 1, .int .i64 1, .int .i64 1]) (by simp [results, Tryd.results75, go_sem]) rfl ⟨rfl, (Below.refl _ _).alloc (Nat.le_refl _) _⟩
    · refine kinds_lit _ 1 1 1 _ ?_ (by decide) (by decide) (by decide)
      go_enter Tryd.func75, Tryd.ntmps75
      go_wp2
      exact bodyPost_ret (v := .agg #[.int .i64 1, .int .i64 1, .int .i64 1]) (by simp [results, Tryd.results75, go_sem]) rfl ⟨rfl, (Below.refl _ _).alloc (Nat.le_refl _) _⟩
    · refine kinds_lit _ 1 1 1 _ ?_ (by decide) (by decide) (by decide)
      go_enter Tryd.func75, Tryd.ntmps75
      go_wp2
      exact bodyPost_ret (v := .agg #[.int .i64 1, .int .i64 1, .int .i64 1]) (by simp [results, Tryd.results75, go_sem]) rfl ⟨rfl, (Below.refl _ _).alloc (Nat.le_refl _) _⟩
    · refine kinds_lit _ 1 1 1 _ ?_ (by decide) (by decide) (by decide)
      go_enter Tryd.func75, Tryd.ntmps75
      go_wp2
      exact bodyPost_ret (v := .agg #[.int .i64 1, .int .i64 1, .int .i64 1]) (by simp [results, Tryd.results75, go_sem]) rfl ⟨rfl, (Below.refl _ _).alloc (Nat.le_refl _) _⟩
    · refine kinds_lit _ 1 1 1 _ ?_ (by decide) (by decide) (by decide)
      go_enter Tryd.func75, Tryd.ntmps75
      go_wp2
      exact bodyPost_ret (v := .agg #[.int .i64 1, .int .i64 1, .int .i64 1]) (by simp [results, Tryd.results75, go_sem]) rfl ⟨rfl, (Below.refl _ _).alloc (Nat.le_refl _) _⟩
    · refine kinds_lit _ 5 0 0 _ ?_ (by decide) (by decide) (by decide)
      go_enter Tryd.func75, Tryd.ntmps75
      go_wp2
      exact bodyPost_ret (v := .agg #[.int .i64 5, .int .i64 0, .int .i64 0]) (by simp [results, Tryd.results75, go_sem]) rfl ⟨rfl, (Below.refl _ _).alloc (Nat.le_refl _) _⟩
    · refine kinds_lit _ 1 5 0 _ ?_ (by decide) (by decide) (by decide)
      go_enter Tryd.func75, Tryd.ntmps75
      go_wp2
      exact bodyPost_ret (v := .agg #[.int .i64 1, .int .i64 5, .int .i64 0]) (by simp [results, Tryd.results75, go_sem]) rfl ⟨rfl, (Below.refl _ _).alloc (Nat.le_refl _) _⟩
    · refine kinds_lit _ 2 4 1 _ ?_ (by decide) (by decide) (by decide)
      go_enter Tryd.func75, Tryd.ntmps75
      go_wp2
      exact bodyPost_ret (v := .agg #[.int .i64 2, .int .i64 4, .int .i64 1]) (by simp [results, Tryd.results75, go_sem]) rfl ⟨rfl, (Below.refl _ _).alloc (Nat.le_refl _) _⟩
    · refine kinds_lit _ 1 2 0 _ ?_ (by decide) (by decide) (by decide)
      go_enter Tryd.func75, Tryd.ntmps75
      go_wp2
      exact bodyPost_ret (v := .agg #[.int .i64 1, .int .i64 2, .int .i64 0]) (by simp [results, Tryd.results75, go_sem]) rfl ⟨rfl, (Below.refl _ _).alloc (Nat.le_refl _) _⟩
    · refine kinds_lit _ 3 1 0 _ ?_ (by decide) (by decide) (by decide)
      go_enter Tryd.func75, Tryd.ntmps75
      go_wp2
      exact bodyPost_ret (v := .agg #[.int .i64 3, .int .i64 1, .int .i64 0]) (by simp [results, Tryd.results75, go_sem]) rfl ⟨rfl, (Below.refl _ _).alloc (Nat.le_refl _) _⟩
    · refine kinds_lit _ 1 3 0 _ ?_ (by decide) (by decide) (by decide)
      go_enter Tryd.func75, Tryd.ntmps75
      go_wp2
      exact bodyPost_ret (v := .agg #[.int .i64 1, .int .i64 3, .int .i64 0]) (by simp [results, Tryd.results75, go_sem]) rfl ⟨rfl, (Below.refl _ _).alloc (Nat.le_refl _) _⟩
    · refine kinds_lit _ 2 0 0 _ ?_ (by decide) (by decide) (by decide)
      go_enter Tryd.func75, Tryd.ntmps75
      go_wp2
      exact bodyPost_ret (v := .agg #[.int .i64 2, .int .i64 0, .int .i64 0]) (by simp [results, Tryd.results75, go_sem]) rfl ⟨rfl, (Below.refl _ _).alloc (Nat.le_refl _) _⟩
    · refine kinds_lit _ 0 0 0 _ ?_ (by decide) (by decide) (by decide)
      go_enter Tryd.func75, Tryd.ntmps75
      go_wp2
      exact bodyPost_ret (v := .agg #[.int .i64 0, .int .i64 0, .int .i64 0]) (by simp [results, Tryd.results75, go_sem]) rfl ⟨rfl, (Below.refl _ _).alloc (Nat.le_refl _) _⟩
    · refine kinds_lit _ 1 0 0 _ ?_ (by decide) (by decide) (by decide)
      go_enter Tryd.func75, Tryd.ntmps75
      go_wp2
      exact bodyPost_ret (v := .agg #[.int .i64 1, .int .i64 0, .int .i64 0]) (by simp [results, Tryd.results75, go_sem]) rfl ⟨rfl, (Below.refl _ _).alloc (Nat.le_refl _) _⟩
  · have n1 : (o == 1) = false := by simp; omega
    have n2 : (o == 2) = false := by simp; omega
    have n3 : (o == 3) = false := by simp; omega
    have n4 : (o == 4) = false := by simp; omega
    have n5 : (o == 5) = false := by simp; omega
    have n6 : (o == 6) = false := by simp; omega
    have n7 : (o == 7) = false := by simp; omega
    have n8 : (o == 8) = false := by simp; omega
    have n9 : (o == 9) = false := by simp; omega
    have n10 : (o == 10) = false := by simp; omega
    have n11 : (o == 11) = false := by simp; omega
    have n12 : (o == 12) = false := by simp; omega
    have n13 : (o == 13) = false := by simp; omega
    have n14 : (o == 14) = false := by simp; omega
    have n15 : (o == 15) = false := by simp; omega
    have hk : ∀ k, kindOf o k = 0 := fun k => if_neg h
    clear h
    refine kinds_lit _ 0 0 0 _ ?_ (hk _) (hk _) (hk _)
    go_enter Tryd.func75, Tryd.ntmps75
    go_wp2
    exact bodyPost_ret (v := .agg #[.int .i64 0, .int .i64 0, .int .i64 0]) (by simp [results, Tryd.results75, go_sem]) rfl ⟨rfl, (Below.refl _ _).alloc (Nat.le_refl _) _⟩
set_option maxHeartbeats 2000000 in
theorem right_any (k v : Int) (w : World) (hk0 : 0 ≤ k) (hk6 : k ≤ 6) : Calls Tryd.prog 76 #[.int .i64 k, .int .i64 v] w fun e w' => e = .returned (.bool (rightB k v)) ∧ w' = w := by
  rcases (by omega : k = 0 ∨ k = 1 ∨ k = 2 ∨ k = 3 ∨ k = 4 ∨ k = 5 ∨ k = 6) with rfl | rfl | rfl | rfl | rfl | rfl | rfl
  · have hr : rightB 0 v = (decide (0 ≤ v) && decide (v < 1)) := by simp [rightB, mostOf]
    rw [hr]
    clear hr
    have hx : ∀ wx : World, (Instr.index 92 (.agg #[.int .i64 1, .int .i64 8, .int .i64 4, .int .i64 16, .int .i64 12, .int .i64 40]) (.int .i64 0)).run Tryd.prog wx = .ok (.int .i64 1) wx := fun _ => by kernel_rfl
    by_cases h1 : 0 ≤ v
    · by_cases h2 : v < 1
      · go_enter Tryd.func76, Tryd.ntmps76
        go_wp2
        go_ret
        exact ⟨by first | (simp; done) | simp [h1, h2], rfl⟩
      · have h3 : decide (v < 1) = false := by simpa using h2
        go_enter Tryd.func76, Tryd.ntmps76
        go_wp2
        go_ret
        exact ⟨by first | (simp; done) | simp [h2], rfl⟩
    · have h3 : decide (0 ≤ v) = false := by simpa using h1
      go_enter Tryd.func76, Tryd.ntmps76
      go_wp2
      go_ret
      exact ⟨by first | (simp; done) | simp [h1], rfl⟩
  · have hr : rightB 1 v = (decide (0 ≤ v) && decide (v < 8)) := by simp [rightB, mostOf]
    rw [hr]
    clear hr
    have hx : ∀ wx : World, (Instr.index 92 (.agg #[.int .i64 1, .int .i64 8, .int .i64 4, .int .i64 16, .int .i64 12, .int .i64 40]) (.int .i64 1)).run Tryd.prog wx = .ok (.int .i64 8) wx := fun _ => by kernel_rfl
    by_cases h1 : 0 ≤ v
    · by_cases h2 : v < 8
      · go_enter Tryd.func76, Tryd.ntmps76
        go_wp2
        go_ret
        exact ⟨by first | (simp; done) | simp [h1, h2], rfl⟩
      · have h3 : decide (v < 8) = false := by simpa using h2
        go_enter Tryd.func76, Tryd.ntmps76
        go_wp2
        go_ret
        exact ⟨by first | (simp; done) | simp [h2], rfl⟩
    · have h3 : decide (0 ≤ v) = false := by simpa using h1
      go_enter Tryd.func76, Tryd.ntmps76
      go_wp2
      go_ret
      exact ⟨by first | (simp; done) | simp [h1], rfl⟩
  · have hr : rightB 2 v = (decide (0 ≤ v) && decide (v < 4)) := by simp [rightB, mostOf]
    rw [hr]
    clear hr
    have hx : ∀ wx : World, (Instr.index 92 (.agg #[.int .i64 1, .int .i64 8, .int .i64 4, .int .i64 16, .int .i64 12, .int .i64 40]) (.int .i64 2)).run Tryd.prog wx = .ok (.int .i64 4) wx := fun _ => by kernel_rfl
    by_cases h1 : 0 ≤ v
    · by_cases h2 : v < 4
      · go_enter Tryd.func76, Tryd.ntmps76
        go_wp2
        go_ret
        exact ⟨by first | (simp; done) | simp [h1, h2], rfl⟩
      · have h3 : decide (v < 4) = false := by simpa using h2
        go_enter Tryd.func76, Tryd.ntmps76
        go_wp2
        go_ret
        exact ⟨by first | (simp; done) | simp [h2], rfl⟩
    · have h3 : decide (0 ≤ v) = false := by simpa using h1
      go_enter Tryd.func76, Tryd.ntmps76
      go_wp2
      go_ret
      exact ⟨by first | (simp; done) | simp [h1], rfl⟩
  · have hr : rightB 3 v = (decide (0 ≤ v) && decide (v < 16)) := by simp [rightB, mostOf]
    rw [hr]
    clear hr
    have hx : ∀ wx : World, (Instr.index 92 (.agg #[.int .i64 1, .int .i64 8, .int .i64 4, .int .i64 16, .int .i64 12, .int .i64 40]) (.int .i64 3)).run Tryd.prog wx = .ok (.int .i64 16) wx := fun _ => by kernel_rfl
    by_cases h1 : 0 ≤ v
    · by_cases h2 : v < 16
      · go_enter Tryd.func76, Tryd.ntmps76
        go_wp2
        go_ret
        exact ⟨by first | (simp; done) | simp [h1, h2], rfl⟩
      · have h3 : decide (v < 16) = false := by simpa using h2
        go_enter Tryd.func76, Tryd.ntmps76
        go_wp2
        go_ret
        exact ⟨by first | (simp; done) | simp [h2], rfl⟩
    · have h3 : decide (0 ≤ v) = false := by simpa using h1
      go_enter Tryd.func76, Tryd.ntmps76
      go_wp2
      go_ret
      exact ⟨by first | (simp; done) | simp [h1], rfl⟩
  · have hr : rightB 4 v = (decide (0 ≤ v) && decide (v < 12)) := by simp [rightB, mostOf]
    rw [hr]
    clear hr
    have hx : ∀ wx : World, (Instr.index 92 (.agg #[.int .i64 1, .int .i64 8, .int .i64 4, .int .i64 16, .int .i64 12, .int .i64 40]) (.int .i64 4)).run Tryd.prog wx = .ok (.int .i64 12) wx := fun _ => by kernel_rfl
    by_cases h1 : 0 ≤ v
    · by_cases h2 : v < 12
      · go_enter Tryd.func76, Tryd.ntmps76
        go_wp2
        go_ret
        exact ⟨by first | (simp; done) | simp [h1, h2], rfl⟩
      · have h3 : decide (v < 12) = false := by simpa using h2
        go_enter Tryd.func76, Tryd.ntmps76
        go_wp2
        go_ret
        exact ⟨by first | (simp; done) | simp [h2], rfl⟩
    · have h3 : decide (0 ≤ v) = false := by simpa using h1
      go_enter Tryd.func76, Tryd.ntmps76
      go_wp2
      go_ret
      exact ⟨by first | (simp; done) | simp [h1], rfl⟩
  · have hr : rightB 5 v = (decide (0 ≤ v) && decide (v < 40)) := by simp [rightB, mostOf]
    rw [hr]
    clear hr
    have hx : ∀ wx : World, (Instr.index 92 (.agg #[.int .i64 1, .int .i64 8, .int .i64 4, .int .i64 16, .int .i64 12, .int .i64 40]) (.int .i64 5)).run Tryd.prog wx = .ok (.int .i64 40) wx := fun _ => by kernel_rfl
    by_cases h1 : 0 ≤ v
    · by_cases h2 : v < 40
      · go_enter Tryd.func76, Tryd.ntmps76
        go_wp2
        go_ret
        exact ⟨by first | (simp; done) | simp [h1, h2], rfl⟩
      · have h3 : decide (v < 40) = false := by simpa using h2
        go_enter Tryd.func76, Tryd.ntmps76
        go_wp2
        go_ret
        exact ⟨by first | (simp; done) | simp [h2], rfl⟩
    · have h3 : decide (0 ≤ v) = false := by simpa using h1
      go_enter Tryd.func76, Tryd.ntmps76
      go_wp2
      go_ret
      exact ⟨by first | (simp; done) | simp [h1], rfl⟩
  · have hr : rightB 6 v = inB v (-2147483648) 2147483647 := by simp [rightB]
    rw [hr]
    clear hr
    by_cases h1 : -2147483648 ≤ v
    · by_cases h2 : v ≤ 2147483647
      · go_enter Tryd.func76, Tryd.ntmps76
        go_wp2
        go_ret
        exact ⟨by first | (simp; done) | simp [inB, h1, h2], rfl⟩
      · have h3 : decide (v ≤ 2147483647) = false := by simpa using h2
        go_enter Tryd.func76, Tryd.ntmps76
        go_wp2
        go_ret
        exact ⟨by first | (simp; done) | simp [inB, h2], rfl⟩
    · have h3 : decide (-2147483648 ≤ v) = false := by simpa using h1
      go_enter Tryd.func76, Tryd.ntmps76
      go_wp2
      go_ret
      exact ⟨by have : inB v (-2147483648) 2147483647 = false := by { unfold inB; rw [h3]; rfl }
                rw [this]; rfl, rfl⟩
end Go.Proofs.YtpmapdialjdcbaaDoor.C2
namespace Go.Proofs.YtpmapdialjdcbaaDoor.C2
open Go.RowKit

set_option linter.unusedSimpArgs false
theorem kindOf_bd (o : Int) (k : Nat) (hk : k < 3) : 0 ≤ kindOf o k ∧ kindOf o k ≤ 6 := by
  by_cases h : 1 ≤ o ∧ o ≤ 15
  · rcases (by omega : o = 1 ∨ o = 2 ∨ o = 3 ∨ o = 4 ∨ o = 5 ∨ o = 6 ∨ o = 7 ∨ o = 8 ∨ o = 9 ∨ o = 10 ∨ o = 11 ∨ o = 12 ∨ o = 13 ∨ o = 14 ∨ o = 15) with rfl | rfl | rfl | rfl | rfl | rfl | rfl | rfl | rfl | rfl | rfl | rfl | rfl | rfl | rfl <;>
    rcases (by omega : k = 0 ∨ k = 1 ∨ k = 2) with rfl | rfl | rfl <;> decide
  · rw [kindOf, if_neg h]
    omega
theorem right_last (o v : Int) (k : Nat) (h1 : 1 ≤ o) (h2 : o ≤ 15) (hk : k < 3) : inB v (firstOf (lastOf o k)) (lastOf o k) = rightB (kindOf o k) v := by
  rcases (by omega : o = 1 ∨ o = 2 ∨ o = 3 ∨ o = 4 ∨ o = 5 ∨ o = 6 ∨ o = 7 ∨ o = 8 ∨ o = 9 ∨ o = 10 ∨ o = 11 ∨ o = 12 ∨ o = 13 ∨ o = 14 ∨ o = 15) with rfl | rfl | rfl | rfl | rfl | rfl | rfl | rfl | rfl | rfl | rfl | rfl | rfl | rfl | rfl <;>
    rcases (by omega : k = 0 ∨ k = 1 ∨ k = 2) with rfl | rfl | rfl <;> rw [Bool.eq_iff_iff] <;> simp [inB, rightB, mostOf, kindOf, kindT, lastOf, lastsT, firstOf] <;> omega
theorem shapeB_right (o a b c : Int) : shapeB o a b c = (inB o 1 15 && rightB (kindOf o 0) a && rightB (kindOf o 1) b && rightB (kindOf o 2) c) := by
  by_cases h : inB o 1 15 = true
  · obtain ⟨h1, h2⟩ := inB_iff.1 h
    have e0 := right_last o a 0 h1 h2 (by omega)
    have e1 := right_last o b 1 h1 h2 (by omega)
    have e2 := right_last o c 2 h1 h2 (by omega)
    rw [← e0, ← e1, ← e2]
    rfl
  · have h' : inB o 1 15 = false := by simpa using h
    simp [shapeB, h']
end Go.Proofs.YtpmapdialjdcbaaDoor.C2
