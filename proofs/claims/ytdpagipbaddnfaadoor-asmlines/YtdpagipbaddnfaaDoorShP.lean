/-
  AsmShapes, plainly: what Parse comes to at its texts.
-/
import Derived.Test.YtdpagipbaddnfaaDoorAsm
namespace Go.Proofs.YtdpagipbaddnfaaDoor
open L3

def headS : List UInt8 := [102, 117, 116, 117, 114, 101, 115, 32, 48, 10, 100, 101, 112, 116, 104, 32, 48, 10, 102, 117, 101, 108, 32, 49, 10, 102, 117, 110, 99, 116, 105, 111, 110, 10]
def yieldS : List UInt8 := [121, 105, 101, 108, 100, 10]
def badS (k : Nat) : List UInt8 := [[114, 101, 116, 32, 56], [97, 100, 100, 32, 48, 44, 32, 56, 44, 32, 48], [106, 111, 105, 110, 32, 48, 44, 32, 52], [102, 111, 114, 107, 32, 48, 44, 32, 49, 50, 44, 32, 48], [115, 101, 116, 32, 49, 54, 44, 32, 48], [103, 101, 116, 32, 48, 44, 32, 45, 49], [106, 117, 109, 112, 32, 52, 48], [99, 111, 110, 115, 116, 32, 56, 44, 32, 49]].getD k []
def tailS : List UInt8 := [10, 114, 101, 116, 32, 48, 10, 114, 101, 116, 32, 57, 10]
def ret0S : List UInt8 := [114, 101, 116, 32, 48, 10]
def reps : Nat → List UInt8
  | 0 => []
  | n + 1 => reps n ++ yieldS
def shBad (n k : Nat) : Bool := match parseF (headS ++ reps n ++ badS k ++ tailS) with
  | (p, ln, e) => decide (e = 3) && decide (ln = n + 5) && decide (p.fs.length = 0)
def shGood (n : Nat) : Bool := match parseF (headS ++ reps n ++ ret0S) with
  | (p, _, e) => decide (e = 0) && decide (p.fs.length = 1) && decide ((p.fs.getD 0 []).length = n + 1)
theorem sh_bad : ((List.range 20).all fun n => (List.range 8).all fun k => shBad n k) = true := by kernel_rfl
theorem sh_good : ((List.range 20).all fun n => shGood n) = true := by kernel_rfl
theorem sh_bad_at {n k : Nat} (hn : n < 20) (hk : k < 8) : ∃ p, parseF (headS ++ reps n ++ badS k ++ tailS) = (p, ((n : Int) + 5, 3)) ∧ p.fs = [] := by
  have h := sh_bad
  rw [List.all_eq_true] at h
  have h2 := h n (by simpa using hn)
  rw [List.all_eq_true] at h2
  have h3 := h2 k (by simpa using hk)
  unfold shBad at h3
  obtain ⟨p, ln, e, hp⟩ : ∃ p ln e, parseF (headS ++ reps n ++ badS k ++ tailS) = (p, ln, e) := ⟨_, _, _, rfl⟩
  rw [hp] at h3
  simp at h3
  obtain ⟨⟨rfl, rfl⟩, h4⟩ := h3
  exact ⟨p, hp, h4⟩
theorem sh_good_at {n : Nat} (hn : n < 20) : ∃ p x f, parseF (headS ++ reps n ++ ret0S) = (p, (x, 0)) ∧ p.fs = [f] ∧ f.length = n + 1 := by
  have h := sh_good
  rw [List.all_eq_true] at h
  have h3 := h n (by simpa using hn)
  unfold shGood at h3
  obtain ⟨p, ln, e, hp⟩ : ∃ p ln e, parseF (headS ++ reps n ++ ret0S) = (p, ln, e) := ⟨_, _, _, rfl⟩
  rw [hp] at h3
  simp at h3
  obtain ⟨⟨rfl, h4⟩, h5⟩ := h3
  obtain ⟨f, hf⟩ := List.length_eq_one_iff.1 h4
  rw [hf] at h5
  exact ⟨p, ln, f, hp, hf, by simpa using h5⟩
theorem awake_parse : parseF (headS ++ ret0S) = (⟨[[⟨15, 0, 0, 0⟩]], 0, 0, 1⟩, 0, 0) := by kernel_rfl
end Go.Proofs.YtdpagipbaddnfaaDoor
