/-
  A program's functions while they are made: each line's instruction goes behind the last function's.
-/
import Derived.Test.YtdpagipbaddnfaaDoorStm3
import Derived.Test.YtdpagipbaddnfaaDoorC2ByNum
import Derived.Deep.AppendLies
import Derived.Deep.RegionLaw
namespace Go.Proofs.YtdpagipbaddnfaaDoor
open Go.RowKit L3
open C2 (In insC cellsI cellsI_snoc SlI SlF)

theorem own_set {w : World} {B e n g cap : Nat} {xs : List Value} (h : w.ownsRow B e 1 (.slice (some ⟨g, 0, none⟩) n cap) n xs) (k : Nat) (v : Value) : (w.setCell ⟨g, k, none⟩ v).ownsRow B e 1 (.slice (some ⟨g, 0, none⟩) n cap) n (xs.set k v) := by
  refine ⟨by simp [h.1], .inr ?_⟩
  rcases h.2 with ⟨h0, _⟩ | ⟨g', cap', cur, e1, h1, h2, h3, h4, h5, h6⟩
  · simp at h0
  · simp at e1
    obtain ⟨rfl, rfl⟩ := e1
    refine ⟨g, cap, cur.setIfInBounds k v, rfl, h1, heap_setCell_same _ _ _ _ _ _ h2, h3, h4, by simp [h5], ?_⟩
    rw [Array.toList_setIfInBounds, List.take_set, h6]
/-- functions that a call owns; the last one's row is no other's -/
structure Fns (w : World) (B : Nat) (fv : Value) (fs : List (List In)) (vals : List Value) : Prop where
  len : vals.length = fs.length
  row : w.ownsRow B 45 1 fv vals.length vals
  ins : ∀ k (h : k < fs.length) (h' : k < vals.length), ∃ a l c, vals[k] = .slice a l c ∧ w.ownsRow B 50 4 vals[k] fs[k].length (cellsI fs[k])
  apart : ∀ k (h : k < vals.length), k + 1 < vals.length → ∀ g, vals[k].ownBlock = some g → (vals.getLastD (.slice none 0 0)).ownBlock ≠ some g
theorem Fns.nil (w : World) (B : Nat) : Fns w B (.slice none 0 0) [] [] := ⟨rfl, World.ownsRow_nil _ _ _ _, fun k h => by simp at h, fun k h => by simp at h⟩
section
variable {w w1 w4 : World} {B : Nat} {fv : Value} {fs : List (List In)} {vals : List Value}
theorem Fns.slF (h : Fns w B fv fs vals) : SlF w fv fs := by
  rcases h.row.2 with ⟨rfl, h0⟩ | ⟨g, cap, cur, rfl, _⟩
  · exact ⟨none, 0, by rw [← h.len, h0], fun k hk => by have := h.len; omega⟩
  · refine ⟨some ⟨g, 0, none⟩, cap, by rw [h.len], fun k hk => ?_⟩
    have hk' : k < vals.length := by rw [h.len]; exact hk
    obtain ⟨a, l, c, e, ho⟩ := h.ins k hk hk'
    refine ⟨g, 0, vals[k], rfl, ?_, C2.own_slI ho⟩
    rw [Nat.zero_add, h.row.cellAt _ (by omega)]
    simp [hk']
theorem Fns.kept (h : Fns w B fv fs vals) (hb : Below w.heap.size w w1) : Fns w1 B fv fs vals :=
  ⟨h.len, owns_same h.row fun g hg => hb.block g (h.row.lt g hg).2, fun k h1 h2 => by
    obtain ⟨oa, ol, oc, e, ho⟩ := h.ins k h1 h2
    exact ⟨oa, ol, oc, e, owns_same ho fun g hg => hb.block g (ho.lt g hg).2⟩, h.apart⟩
theorem Fns.far (h : Fns w B fv fs vals) (hw : ∀ g, B ≤ g → g < w.heap.size → w1.heap[g]? = w.heap[g]?) : Fns w1 B fv fs vals :=
  ⟨h.len, owns_same h.row fun g hg => hw g (h.row.lt g hg).1 (h.row.lt g hg).2, fun k h1 h2 => by
    obtain ⟨oa, ol, oc, e, ho⟩ := h.ins k h1 h2
    exact ⟨oa, ol, oc, e, owns_same ho fun g hg => hw g (ho.lt g hg).1 (ho.lt g hg).2⟩, h.apart⟩
/-- a new function -/
theorem Fns.more (h : Fns w B fv fs vals) {v' : Value} (hgrow : w.grownBy w4 fv.ownBlock) (hown : w4.ownsRow B 45 1 v' (vals.length + 1) (vals ++ [.slice none 0 0])) : Fns w4 B v' (fs ++ [[]]) (vals ++ [.slice none 0 0]) := by
  refine ⟨by simp [h.len], by simpa using hown, fun k h1 h2 => ?_, fun k h1 h2 g hg => ?_⟩
  · by_cases hkk : k < fs.length
    · have hk2 : k < vals.length := by rw [h.len]; exact hkk
      rw [List.getElem_append_left hkk, List.getElem_append_left hk2]
      obtain ⟨a, l, c, e, ho⟩ := h.ins k hkk hk2
      exact ⟨a, l, c, e, owns_same ho fun g hg => hgrow.block g (ho.lt g hg).2 (fun e => own_ne ho h.row (by decide) g hg e.symm)⟩
    · have e1 : k = fs.length := by simp at h1; omega
      subst e1
      have e2 : (fs ++ [[]])[fs.length]'h1 = [] := by simp
      have e3 : (vals ++ [.slice none 0 0])[fs.length]'h2 = .slice none 0 0 := by rw [List.getElem_append_right (by rw [h.len]; omega)]; simp
      rw [e2, e3]
      exact ⟨none, 0, 0, rfl, World.ownsRow_nil _ _ _ _⟩
  · simp [Value.ownBlock]
theorem pushL_snoc (F : List (List In)) (f : List In) (i : In) : pushL (F ++ [f]) i = F ++ [f ++ [i]] := by simp [pushL]
/-- an instruction behind the last function's -/
theorem Fns.push {F : List (List In)} {f : List In} {V : List Value} {v : Value} {go gc g cap : Nat} {i : In} (h : Fns w B (.slice (some ⟨go, 0, none⟩) (V.length + 1) gc) (F ++ [f]) (V ++ [v])) (hgrow : w.grownBy w4 v.ownBlock)
    (hown : w4.ownsRow B 50 4 (.slice (some ⟨g, 0, none⟩) (f.length + 1) cap) (f.length + 1) (cellsI f ++ insC i)) (loc : v.ownBlock = some g ∨ g = w.heap.size) :
    Fns (w4.setCell ⟨go, V.length, none⟩ (.slice (some ⟨g, 0, none⟩) (f.length + 1) cap)) B (.slice (some ⟨go, 0, none⟩) (V.length + 1) gc) (F ++ [f ++ [i]]) (V ++ [.slice (some ⟨g, 0, none⟩) (f.length + 1) cap]) := by
  have hl : V.length = F.length := by have := h.len; simpa using this
  have hrow : w.ownsRow B 45 1 (.slice (some ⟨go, 0, none⟩) (V.length + 1) gc) (V.length + 1) (V ++ [v]) := by simpa using h.row
  obtain ⟨a0, l0, c0, ev, hv⟩ : ∃ a l c, v = .slice a l c ∧ w.ownsRow B 50 4 v f.length (cellsI f) := by
    have := h.ins V.length (by simp; omega) (by simp)
    simpa [hl] using this
  have hrow4 : w4.ownsRow B 45 1 (.slice (some ⟨go, 0, none⟩) (V.length + 1) gc) (V.length + 1) (V ++ [v]) := owns_same hrow fun g' hg' => hgrow.block g' (hrow.lt g' hg').2 (fun e => own_ne hrow hv (by decide) g' hg' e.symm)
  have hset := own_set hrow4 V.length (.slice (some ⟨g, 0, none⟩) (f.length + 1) cap)
  have e1 : (V ++ [v]).set V.length (.slice (some ⟨g, 0, none⟩) (f.length + 1) cap) = V ++ [.slice (some ⟨g, 0, none⟩) (f.length + 1) cap] := by simp
  rw [e1] at hset
  have keep : ∀ {u : Value} {xs : List In}, w4.ownsRow B 50 4 u xs.length (cellsI xs) → (w4.setCell ⟨go, V.length, none⟩ (.slice (some ⟨g, 0, none⟩) (f.length + 1) cap)).ownsRow B 50 4 u xs.length (cellsI xs) := fun {u} {xs} hu => owns_same hu fun g' hg' => Below.heap_setCell _ _ _ _ (fun e => own_ne hu hrow4 (by decide) g' hg' (by show some go = some g'; rw [e]))
  have hVl : ∀ k (hk : k < V.length), ∃ a l c, V[k] = .slice a l c ∧ w.ownsRow B 50 4 V[k] (F[k]'(by omega)).length (cellsI (F[k]'(by omega))) := fun k hk => by
    have := h.ins k (by simp; omega) (by simp; omega)
    rw [List.getElem_append_left hk, List.getElem_append_left (show k < F.length by omega)] at this
    exact this
  have hap : ∀ k (hk : k < V.length) g', V[k].ownBlock = some g' → v.ownBlock ≠ some g' := fun k hk g' hg' => by
    have := h.apart k (by simp; omega) (by simp; omega) g' (by rw [List.getElem_append_left hk]; exact hg')
    simpa using this
  refine ⟨by simp [hl], by simpa using hset, fun k h1 h2 => ?_, fun k h1 h2 g' hg' => ?_⟩
  · by_cases hk : k < V.length
    · rw [List.getElem_append_left hk, List.getElem_append_left (show k < F.length by omega)]
      obtain ⟨a, l, c, e, ho⟩ := hVl k hk
      exact ⟨a, l, c, e, keep (owns_same ho fun g' hg' => hgrow.block g' (ho.lt g' hg').2 (fun e => hap k hk g' hg' e.symm))⟩
    · have e1 : k = V.length := by simp at h2; omega
      subst e1
      have e2 : (F ++ [f ++ [i]])[V.length]'h1 = f ++ [i] := by rw [List.getElem_append_right (by omega)]; simp [hl]
      have e3 : (V ++ [Value.slice (some ⟨g, 0, none⟩) (f.length + 1) cap])[V.length]'h2 = .slice (some ⟨g, 0, none⟩) (f.length + 1) cap := by simp
      rw [e2, e3]
      refine ⟨_, _, _, rfl, keep ?_⟩
      rw [cellsI_snoc]
      simpa using hown
  · have hk : k < V.length := by simp at h2; omega
    rw [List.getElem_append_left hk] at hg'
    simp only [List.getLastD_concat]
    intro e
    simp only [Value.ownBlock, Option.some.injEq] at e
    subst e
    rcases loc with h3 | h3
    · exact hap k hk _ hg' h3
    · obtain ⟨a, l, c, _, ho⟩ := hVl k hk
      have := (ho.lt _ hg').2
      omega
end
end Go.Proofs.YtdpagipbaddnfaaDoor
