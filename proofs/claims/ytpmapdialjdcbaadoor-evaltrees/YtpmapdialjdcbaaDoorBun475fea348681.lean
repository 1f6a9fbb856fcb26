/-
  Helpers: EvJ.
-/
import Derived.Test.YtpmapdialjdcbaaDoorBund7ec1a583de5
namespace Go.Proofs.YtpmapdialjdcbaaDoor

def joinsP (k w j : Nat) : Pg7 := ⟨[(List.range k).map (fun i => ⟨9, (i : Int), if i = w then 2 else 1, 0⟩) ++ ((List.range j).map fun i => [⟨10, 1, (i : Int), 0⟩, ⟨2, 2, 2, 1⟩]).flatten ++ [⟨15, 2, 0, 0⟩], [⟨15, 0, 0, 0⟩], [⟨5, 0, 0, 7⟩, ⟨15, 0, 0, 0⟩]], 0, 1, 30⟩
def joinsB (k w j : Nat) : Bool :=
  let q := ev7 (joinsP k w j) 200 (rs0 (joinsP k w j)) (root7 (joinsP k w j) 5)
  !q.1.over && decide (q.1.ran.length = k) && decide (q.1.forks = k) && (if w < j then decide (q.2.e.h = 2) && decide (q.2.e.v = 0) else decide (q.2.e.h = 1) && decide (q.2.e.v = 5 * j))
theorem joins_all : ∀ k, k < 4 → 1 ≤ k → ∀ w, w < k → ∀ j, j < k + 1 → joinsB k w j = true := by decide +kernel
def errsF : Nat → List In7
  | 0 => [⟨5, 0, 0, 1⟩, ⟨15, 0, 0, 0⟩]
  | 1 => [⟨11, 0, 0, 0⟩, ⟨11, 0, 0, 0⟩, ⟨15, 0, 0, 0⟩]
  | 2 => [⟨12, 0, 0, 0⟩, ⟨15, 0, 0, 0⟩]
  | 3 => [⟨7, 0, 0, 0⟩, ⟨15, 0, 0, 0⟩]
  | 4 => [⟨9, 0, 1, 0⟩, ⟨10, 0, 0, 0⟩, ⟨15, 0, 0, 0⟩]
  | 5 => [⟨10, 0, 2, 0⟩, ⟨15, 0, 0, 0⟩]
  | 6 => [⟨13, 1, 0, 0⟩, ⟨15, 0, 0, 0⟩]
  | _ => [⟨14, 0, 0, 0⟩, ⟨15, 0, 0, 0⟩]
def errsW : Nat → Int
  | 0 => 2
  | 1 => 3
  | 2 => 4
  | 3 => 5
  | 4 => 6
  | 5 => 7
  | 6 => 7
  | _ => 1
def errsP (k : Nat) : Pg7 := ⟨[errsF k, [⟨15, 0, 0, 0⟩]], 1, 0, 20⟩
theorem errs_all (k : Nat) (hk : k < 8) (arg : Int) : (ev7 (errsP k) 100 (rs0 (errsP k)) (root7 (errsP k) arg)).1.over = false ∧ (ev7 (errsP k) 100 (rs0 (errsP k)) (root7 (errsP k) arg)).1.ran = [] ∧ (ev7 (errsP k) 100 (rs0 (errsP k)) (root7 (errsP k) arg)).1.was = [decide (k = 1)] ∧ (ev7 (errsP k) 100 (rs0 (errsP k)) (root7 (errsP k) arg)).2.e.h = errsW k := by
  rcases (by omega : k = 0 ∨ k = 1 ∨ k = 2 ∨ k = 3 ∨ k = 4 ∨ k = 5 ∨ k = 6 ∨ k = 7) with rfl | rfl | rfl | rfl | rfl | rfl | rfl | rfl
  all_goals exact ⟨by kernel_rfl, by kernel_rfl, by kernel_rfl, by kernel_rfl⟩
end Go.Proofs.YtpmapdialjdcbaaDoor
