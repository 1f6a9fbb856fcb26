/-
  The law CodeSizes: its walk.
-/
import Derived.Test.YtdpagipbaddnfaaDoorC2ByNum2
namespace Go.Proofs.YtdpagipbaddnfaaDoor.C2
open Go.RowKit

theorem insBI_length (x : In) : (insBI x).length = if x.o = 1 then 6 else 4 := by
  unfold insBI insB restB
  by_cases h : x.o = 1
  · simp [be_length, widthOf, h]
  · simp [be_length, widthOf, h]
theorem code_ge (f : List In) : 4 * f.length ≤ (codeB f).length := by
  induction f with
  | nil => simp [codeB]
  | cons x f ih =>
    have h := insBI_length x
    simp only [codeB, List.map_cons, List.flatten_cons, List.length_append, List.length_cons] at ih ⊢
    split at h <;> omega
theorem madeCells_at (z : Value) (n j : Nat) (h : j < n) : (madeCells #[z] n)[j]? = some z := by
  have := toList_madeCells_one z n
  rw [← Array.getElem?_toList, this, List.getElem?_replicate, if_pos h]
theorem madeCells_four (z : Value) (n j : Nat) (h : j < n) : (madeCells #[z, z, z, z] n)[j]? = some z := by
  have hm : j % 4 < 4 := Nat.mod_lt _ (by omega)
  simp only [madeCells]
  simp [h]
  rcases (by omega : j % 4 = 0 ∨ j % 4 = 1 ∨ j % 4 = 2 ∨ j % 4 = 3) with h | h | h | h <;> simp [h]
theorem slF_nils {w : World} {G n : Nat} (h : w.heap[G]? = some (.cells (nilRow n) 45 (0, 0))) : SlF w (.slice (some ⟨G, 0, none⟩) n n) (List.replicate n []) := by
  refine ⟨some ⟨G, 0, none⟩, n, by simp, fun k hk => ⟨G, 0, .slice none 0 0, rfl, ?_, ?_⟩⟩
  · have hk' : k < n := by simpa using hk
    rw [Nat.zero_add, cell_of_row w G k _ _ _ h, nilRow, madeCells_at _ _ _ (by omega)]
  · rw [List.getElem_replicate]
    exact ⟨none, 0, rfl, fun k hk => by simp at hk⟩
theorem slI_zeros {w : World} {G n : Nat} (h : w.heap[G]? = some (.cells (zeroRow n) 50 (0, 0))) : SlI w (.slice (some ⟨G, 0, none⟩) n n) (List.replicate n ⟨0, 0, 0, 0⟩) := by
  refine ⟨some ⟨G, 0, none⟩, n, by simp, fun k hk => ⟨G, 0, rfl, ?_⟩⟩
  have hk' : k < n := by simpa using hk
  rw [List.getElem_replicate]
  constructor <;> rw [cell_of_row w G _ _ _ _ h, zeroRow, madeCells_four _ _ _ (by omega)]
theorem strB_size (l : List UInt8) : (strB l).size = l.length := by simp [strB, ByteArray.size]
theorem big13 (a b c : Int) : putE ⟨List.replicate 13 [], a, b, c⟩ = 2 := by
  have : bigB (List.replicate 13 []) = true := by decide
  exact if_pos this
theorem big41 (a b c : Int) : putE ⟨[List.replicate 41 ⟨0, 0, 0, 0⟩], a, b, c⟩ = 2 := by
  have : bigB [List.replicate 41 ⟨0, 0, 0, 0⟩] = true := by decide
  exact if_pos this
/-- the numbers that are handed in, readable -/
def NumsIn (w : World) (nv : Value) (len : Nat) : Prop := ∃ ad cap, nv = .slice ad len cap ∧ len ≤ cap ∧ cap ≤ 9223372036854775807 ∧ LAt w.heap.size w ad len
end Go.Proofs.YtdpagipbaddnfaaDoor.C2