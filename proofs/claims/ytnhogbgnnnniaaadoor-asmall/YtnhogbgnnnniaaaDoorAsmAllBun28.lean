/-
  Helpers: Kinds.
-/
import Derived.Test.YtnhogbgnnnniaaaDoorAsmAllBun26
import Derived.Maps.OwnSet
import Derived.LoopTactic
namespace Go.Proofs.YtnhogbgnnnniaaaDoor
open Go.RowKit L3 Go.Maps

/-- the package's table of words and operands, in memory -/
def FTab (w : World) : Prop := ∀ i : Nat, i < 20 → w.cell? ⟨0, i * 2, none⟩ = some (.string (strB (wordOf i))) ∧ w.cell? ⟨0, i * 2 + 1, none⟩ = some (.int .i64 (opsOf i))
theorem FTab.pos {w : World} (h : FTab w) : 0 < w.heap.size := block_lt_of_cell (h 0 (by omega)).1
theorem FTab.below {w w' : World} (h : FTab w) (hb : Below w.heap.size w w') : FTab w' := fun i hi => by
  rw [hb.cell (p := ⟨0, i * 2, none⟩) h.pos, hb.cell (p := ⟨0, i * 2 + 1, none⟩) h.pos]
  exact h i hi
/-- what the map holds behind n words -/
def mapTo : Nat → DataW Unit
  | 0 => .map []
  | n + 1 => (mapTo n).put (.string (wordOf (n + 1))) (.lit (.int .i64 ((n : Int) + 1)))
theorem mapTo_is : ∀ n, IsMap (mapTo n)
  | 0 => ⟨_, rfl⟩
  | n + 1 => by
    obtain ⟨es, h⟩ := mapTo_is n
    show IsMap ((mapTo n).put _ _)
    rw [h]
    exact ⟨_, rfl⟩
theorem mapTo_at : ∀ (n : Nat) (s : List UInt8), (mapTo n).atKey (.string s) (.lit (.int .i64 0)) = .lit (.int .i64 (kindTo n s))
  | 0, s => rfl
  | n + 1, s => by
    show ((mapTo n).put _ _).atKey _ _ = _
    by_cases h : s = wordOf (n + 1)
    · subst h
      rw [atKey_put_same (mapTo_is n) (show WideAt.IsKeyLit (.string _) from trivial)]
      simp [kindTo]
    · rw [atKey_put_other (by simpa using h), mapTo_at n s]
      simp [kindTo, h]
theorem mapTo_has : ∀ (n : Nat) (s : List UInt8), Maps.has (mapTo n) (.string s) = decide (kindTo n s ≠ 0)
  | 0, s => rfl
  | n + 1, s => by
    show Maps.has ((mapTo n).put _ _) _ = _
    by_cases h : s = wordOf (n + 1)
    · subst h
      rw [has_put_same (mapTo_is n) (show WideAt.IsKeyLit (.string _) from trivial)]
      simp [kindTo]
    · rw [has_put_other (by simpa using h), mapTo_has n s]
      simp [kindTo, h]
theorem keyLaw : Keyed Tryd.prog 9 := string_keyed Tryd.underlying9
theorem zeroInt (w : World) : (zeroValue 3).run Tryd.prog w = .ok (.int .i64 0) w := by kernel_rfl
def map19 : DataW Unit := mapTo 19
theorem map19_at (s : List UInt8) : map19.atKey (.string s) (.lit (.int .i64 0)) = .lit (.int .i64 (kindOf s)) := mapTo_at 19 s
theorem map19_has (s : List UInt8) : Maps.has map19 (.string s) = decide (kindOf s ≠ 0) := mapTo_has 19 s
/-- the map of kinds lies at block B -/
def KMap (w : World) (B : Nat) : Prop := w.ownsMap Tryd.prog 9 (plainElem Tryd.prog 3) B 19 map19
theorem KMap.below {w w' : World} {B : Nat} (h : KMap w B) (hb : Below w.heap.size w w') : KMap w' B := World.ownsMap.kept (row := none) h ⟨hb.os, hb.tape, hb.output, hb.size, fun k hk _ => hb.block k hk⟩ (by simp)
theorem word_len : ∀ n, n < 20 → (wordOf n).length ≤ 8 := by decide
set_option maxRecDepth 4000 in
theorem kindsByWord_any (w : World) (hT : FTab w) : Calls Tryd.prog 56 #[] w fun e w' => e = .returned (.map (some w.heap.size)) ∧ KMap w' w.heap.size ∧ Below w.heap.size w w' := by
  have hmm := @run_makeMap Tryd.prog
  go_enter Tryd.func56, Tryd.ntmps56
  go_wp2_with fail
  go_loopw [2] (fun i wr => ∃ k : Nat, k ≤ 19 ∧ i = .int .i64 ((k : Int) + 1) ∧ wr.ownsMap Tryd.prog 9 (plainElem Tryd.prog 3) w.heap.size k (mapTo k) ∧ Below w.heap.size w wr) (fun i _ => (20 - intOf i).toNat)
  case atStart => exact ⟨0, by omega, rfl, World.ownsMap_made _ _ _ _, (Below.refl _ _).alloc (Nat.le_refl _) _⟩
  case round =>
    obtain ⟨k, hk, rfl, hown, hb⟩ := hrel
    by_cases hlt : k < 19
    · have hc := (hT.below hb (k + 1) (by omega)).1
      have hwl := word_len (k + 1) (by omega)
      obtain ⟨S, hS⟩ : ∃ S, S = strB (wordOf (k + 1)) := ⟨_, rfl⟩
      have hkey : keyOf Tryd.prog 9 (.string S) = some (.string (wordOf (k + 1))) := by
        rw [WideMaps.keyOf_string_mk Tryd.underlying9 (by rw [hS, strB_size]; unfold maxLen; omega), hS, strB_data]
      rw [← hS] at hc
      have hc2 : wr.cell? ⟨0, (k + 1) * 2, none⟩ = some (.string S) := hc
      clear hS hc hwl
      go_wp2_with (first | (at_mapUpdate; refine wpList_mapUpdate_own _ rfl _ _ _ 101 rfl 9 3 keyLaw Tryd.underlying101 _ w.heap.size k _ rfl hown (by unfold maxLen; omega) _ _ _ rfl rfl hkey _ [] (plainElem_int Tryd.underlying3 (WalkArith.wf_i64 (by omega))) ?_; intro w1 hown1 hgrow1))
      go_roundw
      case rel => exact ⟨k + 1, by omega, by go_num, hown1, hb.trans ⟨hgrow1.os, hgrow1.tape, hgrow1.output, hgrow1.size, fun j hj => hgrow1.block j (by have := hb.size; omega) (by simp; omega)⟩⟩
      case measure => simp [intOf]; omega
    · obtain rfl : k = 19 := by omega
      go_wp2_with fail
      go_ret
      exact ⟨rfl, hown, hb⟩
theorem follows_any (n k : Nat) (hn : n ≤ 1000000) (hk : k ≤ 1000000) (w : World) : Calls Tryd.prog 58 #[.int .i64 (n : Int), .int .i64 (k : Int)] w fun e w' => e = .returned (.bool (followsB n k)) ∧ w' = w := by
  by_cases h3 : n ≤ 3
  · have hd : ((k : Int) == 16 + (n : Int)) = followsB n k := by
      simp only [followsB, h3, if_true]
      rw [Bool.eq_iff_iff]
      simp
      omega
    go_enter Tryd.func58, Tryd.ntmps58
    go_wp2_with fail
    go_ret
    exact ⟨rfl, rfl⟩
  · have hd : decide ((16 : Int) + (n : Int) ≤ 19) = false := by simp; omega
    by_cases h19 : k = 19
    · subst h19
      have e : followsB n 19 = true := by simp [followsB, h3]
      go_enter Tryd.func58, Tryd.ntmps58
      go_wp2_with fail
      go_ret
      exact ⟨congrArg (fun b => Ending.returned (.bool b)) e.symm, rfl⟩
    · have e : followsB n k = decide ((k : Int) ≤ 15) := by
        simp only [followsB, h3, h19, if_false]
        rw [Bool.eq_iff_iff]
        simp
        omega
      have h2 : ((k : Int) == 19) = false := by simp; omega
      go_enter Tryd.func58, Tryd.ntmps58
      go_wp2_with fail
      go_ret
      exact ⟨congrArg (fun b => Ending.returned (.bool b)) e.symm, rfl⟩
end Go.Proofs.YtnhogbgnnnniaaaDoor
