/-
  Helpers: C2Args.
-/
import Derived.Test.YtpmapdialjdcbaaDoorBun53d5438622c1
import Derived.ProofKit
import Derived.OpenShut
namespace Go.Proofs.YtpmapdialjdcbaaDoor.C2
open Go.ChangeShapes Go.WideShapes Go.ChangeAt Go.RowKit
theorem cellsInt' : Tryd.prog.cellsOf 3 = 1 := by kernel_rfl
theorem nums_in {H : Type} {enc : TypeId × Value → H} {W : World} {v : Value} {d : DataW H} {ps : List MemPlace} (hv : ∃ a len cap, v = .slice a len cap) (h : DataW.Trod enc Tryd.prog W 0 (fun _ => true) true 31 v d ps) : ∃ len, NumsIn W v len ∧ len ≤ 9223372036854775807 := by
  obtain ⟨a0, len, cap, rfl⟩ := hv
  obtain ⟨fuel, hf⟩ := h
  rcases open_ints Tryd.underlying31 Tryd.underlying3 cellsInt' hf with ⟨hcs, -⟩ | ⟨a, len', cap', zs, hcs, -, hl, hm, hz, -, hcell, -⟩
  · simp [Value.cells] at hcs
    obtain ⟨rfl, rfl, rfl⟩ := hcs
    exact ⟨0, ⟨none, 0, rfl, by omega, by omega, ⟨fun k hk => by omega⟩⟩, by omega⟩
  · simp [Value.cells] at hcs
    obtain ⟨rfl, rfl, rfl⟩ := hcs
    simp at hz
    unfold maxLen at hm
    refine ⟨len, ⟨some a, cap, rfl, hl, by omega, ⟨fun k hk => ?_⟩⟩, by omega⟩
    obtain ⟨b, off, rfl, hc⟩ := ints_at hcell (by omega)
    have := hc k (by omega)
    exact ⟨b, off, _, rfl, block_lt_of_cell this, this⟩
theorem byte_in {H : Type} {enc : TypeId × Value → H} {W : World} {n : Int} {d : DataW H} {ps : List MemPlace} (h : DataW.Trod enc Tryd.prog W 0 (fun _ => true) true 5 (.int .u8 n) d ps) : 0 ≤ n ∧ n ≤ 255 := by
  obtain ⟨fuel, hf⟩ := h
  obtain ⟨n', h, -, hw⟩ := DataW.trod_int Tryd.underlying5 hf
  simp [Value.cells] at h
  subst h
  simp only [Lit.wf, Bool.and_eq_true, decide_eq_true_eq] at hw
  simp [IntKind.min, IntKind.max, IntKind.bits, IntKind.signed] at hw
  omega
end Go.Proofs.YtpmapdialjdcbaaDoor.C2
