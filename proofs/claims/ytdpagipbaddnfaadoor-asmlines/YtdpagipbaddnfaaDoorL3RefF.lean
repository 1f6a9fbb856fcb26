/-
  The reference: letter, digit, number.
-/
import Derived.Test.YtdpagipbaddnfaaDoorL3RefP
namespace Go.Proofs.YtdpagipbaddnfaaDoor.L3
open Go.RowKit

def letB (l : List UInt8) (i : Nat) : Bool := match l[i]? with | some c => decide (isL c) | none => false
def digB (l : List UInt8) (i : Nat) : Bool := match l[i]? with | some c => decide (isD c) | none => false
theorem letB_in {l : List UInt8} {i : Nat} (h : i < l.length) : letB l i = decide (isL l[i]) := by simp [letB, List.getElem?_eq_getElem h]
theorem digB_in {l : List UInt8} {i : Nat} (h : i < l.length) : digB l i = decide (isD l[i]) := by simp [digB, List.getElem?_eq_getElem h]
theorem letB_out {l : List UInt8} {i : Nat} (h : ¬ i < l.length) : letB l i = false := by simp [letB, List.getElem?_eq_none (by omega : l.length ≤ i)]
theorem digB_out {l : List UInt8} {i : Nat} (h : ¬ i < l.length) : digB l i = false := by simp [digB, List.getElem?_eq_none (by omega : l.length ≤ i)]
theorem letB_true {l : List UInt8} {i : Nat} (h : letB l i = true) : ∃ h : i < l.length, isL l[i] := by
  by_cases hi : i < l.length
  · rw [letB_in hi] at h
    exact ⟨hi, by simpa using h⟩
  · rw [letB_out hi] at h
    cases h
theorem letB_false {l : List UInt8} {i : Nat} (h : letB l i = false) : ∀ h : i < l.length, ¬ isL l[i] := fun hi => by
  rw [letB_in hi] at h
  simpa using h
theorem digB_true {l : List UInt8} {i : Nat} (h : digB l i = true) : ∃ h : i < l.length, isD l[i] := by
  by_cases hi : i < l.length
  · rw [digB_in hi] at h
    exact ⟨hi, by simpa using h⟩
  · rw [digB_out hi] at h
    cases h
theorem digB_false {l : List UInt8} {i : Nat} (h : digB l i = false) : ∀ h : i < l.length, ¬ isD l[i] := fun hi => by
  rw [digB_in hi] at h
  simpa using h
theorem letter_any (l : List UInt8) (i : Nat) (w : World) : Calls Tryd.prog 52 #[.string (strB l), .int .i64 (i : Int)] w fun e w' => e = .returned (.bool (letB l i)) ∧ w' = w := by
  have hs : (strB l).size = l.length := strB_size l
  by_cases hi : i < l.length
  · have hby := fun wx => byteL l i hi wx
    rw [letB_in hi]
    have hcs : (isL l[i] ∧ (97 : Int) ≤ l[i].toNat ∧ (l[i].toNat : Int) ≤ 122) ∨ (¬ isL l[i] ∧ decide ((97 : Int) ≤ l[i].toNat) = false) ∨ (¬ isL l[i] ∧ (97 : Int) ≤ l[i].toNat ∧ decide ((l[i].toNat : Int) ≤ 122) = false) := by
      unfold isL
      simp
      omega
    rcases hcs with ⟨h1, h2, h3⟩ | ⟨h1, h2⟩ | ⟨h1, h2, h3⟩
    · rw [decide_eq_true h1]
      generalize l[i].toNat = z at *
      go_enter Tryd.func52, Tryd.ntmps52
      go_wp2_with fail
      go_ret
      exact ⟨rfl, rfl⟩
    · rw [decide_eq_false h1]
      generalize l[i].toNat = z at *
      go_enter Tryd.func52, Tryd.ntmps52
      go_wp2_with fail
      go_ret
      exact ⟨rfl, rfl⟩
    · rw [decide_eq_false h1]
      generalize l[i].toNat = z at *
      go_enter Tryd.func52, Tryd.ntmps52
      go_wp2_with fail
      go_ret
      exact ⟨rfl, rfl⟩
  · rw [letB_out hi]
    go_enter Tryd.func52, Tryd.ntmps52
    go_wp2_with fail
    go_ret
    exact ⟨rfl, rfl⟩
theorem digit_any (l : List UInt8) (i : Nat) (w : World) : Calls Tryd.prog 53 #[.string (strB l), .int .i64 (i : Int)] w fun e w' => e = .returned (.bool (digB l i)) ∧ w' = w := by
  have hs : (strB l).size = l.length := strB_size l
  by_cases hi : i < l.length
  · have hby := fun wx => byteL l i hi wx
    rw [digB_in hi]
    have hcs : (isD l[i] ∧ (48 : Int) ≤ l[i].toNat ∧ (l[i].toNat : Int) ≤ 57) ∨ (¬ isD l[i] ∧ decide ((48 : Int) ≤ l[i].toNat) = false) ∨ (¬ isD l[i] ∧ (48 : Int) ≤ l[i].toNat ∧ decide ((l[i].toNat : Int) ≤ 57) = false) := by
      unfold isD
      simp
      omega
    rcases hcs with ⟨h1, h2, h3⟩ | ⟨h1, h2⟩ | ⟨h1, h2, h3⟩
    · rw [decide_eq_true h1]
      generalize l[i].toNat = z at *
      go_enter Tryd.func53, Tryd.ntmps53
      go_wp2_with fail
      go_ret
      exact ⟨rfl, rfl⟩
    · rw [decide_eq_false h1]
      generalize l[i].toNat = z at *
      go_enter Tryd.func53, Tryd.ntmps53
      go_wp2_with fail
      go_ret
      exact ⟨rfl, rfl⟩
    · rw [decide_eq_false h1]
      generalize l[i].toNat = z at *
      go_enter Tryd.func53, Tryd.ntmps53
      go_wp2_with fail
      go_ret
      exact ⟨rfl, rfl⟩
  · rw [digB_out hi]
    go_enter Tryd.func53, Tryd.ntmps53
    go_wp2_with fail
    go_ret
    exact ⟨rfl, rfl⟩
/-- a number that is cut where it grows too great -/
def capV (v : Nat) : Nat := if v ≤ 1099511627776 then v else 1099511627776
theorem capV_le (v : Nat) : capV v ≤ 1099511627776 := by unfold capV; split <;> omega
theorem capV_step (v d : Nat) : capV (10 * v + d) = if 10 * capV v + d ≤ 1099511627776 then 10 * capV v + d else 1099511627776 := by
  unfold capV
  split <;> split <;> first | omega | (split <;> omega)
theorem capV_in {g : Int} (hg : g = 1 ∨ g = -1) (v : Nat) : inR (g * (capV v : Int)) ↔ inR (g * (v : Int)) := by
  unfold inR capV
  split
  · exact Iff.rfl
  · rcases hg with rfl | rfl <;> omega
theorem capV_same {g : Int} (hg : g = 1 ∨ g = -1) {v : Nat} (h : inR (g * (v : Int))) : capV v = v := by
  unfold inR at h
  unfold capV
  rw [if_pos]
  rcases hg with rfl | rfl <;> omega
theorem valF_snoc (l : List UInt8) (b : UInt8) (v : Nat) : valF v (l ++ [b]) = 10 * valF v l + dgt b := by simp [valF]
/-- what number answers -/
def NumPost (l : List UInt8) (i : Nat) (hi : i < l.length) (w : World) (e : Ending) (w' : World) : Prop :=
  w' = w ∧ ∃ (g : Int) (i1 j : Nat), ((g = -1 ∧ (l[i].toNat : Int) = 45 ∧ i1 = i + 1) ∨ (g = 1 ∧ isD l[i] ∧ i1 = i)) ∧ i1 ≤ j ∧ j ≤ l.length ∧ Digs (seg l i1 j) ∧ (∀ h : j < l.length, ¬ isD l[j]) ∧
    (((i1 < j ∧ inR (g * (valF 0 (seg l i1 j) : Int)) ∧ ∀ h : j < l.length, ¬ isL l[j]) ∧ e = .returned (.tuple #[.int .i64 (g * (valF 0 (seg l i1 j) : Int)), .int .i64 j, .bool true])) ∨
     (¬ (i1 < j ∧ inR (g * (valF 0 (seg l i1 j) : Int)) ∧ ∀ h : j < l.length, ¬ isL l[j]) ∧ ∃ x, e = .returned (.tuple #[.int .i64 x, .int .i64 j, .bool false])))
/-- the digits under way -/
structure NumAt (l : List UInt8) (i1 k : Nat) : Prop where
  le : i1 ≤ k
  len : k ≤ l.length
  digs : Digs (seg l i1 k)
  first : k = i1 ∨ digB l i1 = true
theorem NumAt.next {l : List UInt8} {i1 k : Nat} (h : NumAt l i1 k) (hd : digB l k = true) : NumAt l i1 (k + 1) ∧ ∃ h : k < l.length, valF 0 (seg l i1 (k + 1)) = 10 * valF 0 (seg l i1 k) + dgt l[k] ∧ 48 ≤ l[k].toNat ∧ l[k].toNat ≤ 57 := by
  obtain ⟨hk, h1, h2⟩ := digB_true hd
  have hle := h.le
  have e := seg_succ l h.le hk
  refine ⟨⟨by omega, by omega, ?_, .inr ?_⟩, hk, by rw [e, valF_snoc], h1, h2⟩
  · rw [e]
    intro b hb
    simp at hb
    rcases hb with hb | rfl
    · exact h.digs b hb
    · exact ⟨h1, h2⟩
  · rcases h.first with rfl | h
    · exact hd
    · exact h
end Go.Proofs.YtdpagipbaddnfaaDoor.L3