/-
  Helpers: H8Hl, A9ArL, ZL.
-/
import Derived.Test.YtopnkfbcphbbiaaDoorBunfcd4c3dcc857
import Derived.OpenShut
import Derived.ChangeSame
import Derived.Lib.LaidTab
namespace Go.Proofs.YtopnkfbcphbbiaaDoor.H8
open Go.RowKit
set_option maxRecDepth 4000

theorem own : ownKnob Tryd.prog.godebug = none := by kernel_rfl
theorem gSz : Tryd.prog.globalNamed "magpie/handle.sizes" = some 0 := by kernel_rfl
theorem gFd : Tryd.prog.globalNamed "magpie/handle.fields" = some 1 := by kernel_rfl
theorem gFdType : (Tryd.prog.globals[1]?).map (·.type) = some 112 := by kernel_rfl
theorem cellsFd : Tryd.prog.cellsOf 111 = 3 := by kernel_rfl
theorem cellsI : Tryd.prog.cellsOf 3 = 1 := by kernel_rfl
def fieldD {H : Type} (i : Nat) : DataW H := .agg [.lit (.int .i64 (fdT.getD (i * 3) 0)), .lit (.int .i64 (fdT.getD (i * 3 + 1) 0)), .lit (.int .i64 (fdT.getD (i * 3 + 2) 0))]
theorem laid_fields {H : Type} : (Rows.laid_magpie_handle_fields : DataW H) = .agg ((List.range 3).map fieldD) := rfl
theorem laid_sizes {H : Type} : (Rows.laid_magpie_handle_sizes : DataW H) = Lib.tabData .i64 szT := rfl
theorem trod_struct3 {H : Type} {enc : TypeId × Value → H} {P : Program} {w : World} {base : Nat} {sp : Nat → Bool} {held : Bool} {fuel : Nat} {t : TypeId} {f0 f1 f2 : Field} {cs : List Value} {x : DataW H × List MemPlace} (ht : P.underlying t = some (.struct #[f0, f1, f2])) (h : DataW.trod enc P w base sp held fuel t cs = some x) :
    ∃ y0 y1 y2 n, x = (.agg [y0.1, y1.1, y2.1], y0.2 ++ (y1.2 ++ y2.2)) ∧ cs.length = P.cellsOf t ∧ DataW.trod enc P w base sp held n f0.type ((cs.drop f0.offset).take (P.cellsOf f0.type)) = some y0 ∧
      DataW.trod enc P w base sp held n f1.type ((cs.drop f1.offset).take (P.cellsOf f1.type)) = some y1 ∧ DataW.trod enc P w base sp held n f2.type ((cs.drop f2.offset).take (P.cellsOf f2.type)) = some y2 := by
  obtain ⟨xs, n, _, rfl, hl, hlen, hf⟩ := DataW.trod_struct ht h
  match xs, hlen with
  | [y0, y1, y2], _ => exact ⟨y0, y1, y2, n, by simp, hl, by simpa using hf 0 f0 rfl, by simpa using hf 1 f1 rfl, by simpa using hf 2 f2 rfl⟩
theorem fields_of {W : World} {rest : List (String × DataW Unit)} {ps : List MemPlace} (h : DataW.LaidVars Tryd.prog W (("magpie/handle.fields", Rows.laid_magpie_handle_fields) :: rest) ps) : ∀ i : Nat, i < 9 → W.cell? ⟨1, i, none⟩ = some (.int .i64 (fdT.getD i 0)) := by
  obtain ⟨g', t', cs, fuel, p, q, hg', ht', hvar, hd, _, _⟩ := h
  obtain rfl := Option.some.inj (gFd.symm.trans hg')
  obtain rfl := Option.some.inj (gFdType.symm.trans ht')
  obtain ⟨xs, m, rfl, hx, hl, hxl, hf⟩ := DataW.trod_array Tryd.underlying112 hd
  have hrows : xs.map (·.1) = (List.range 3).map fieldD := by
    have := congrArg Prod.fst hx
    rw [laid_fields] at this
    simpa using this.symm
  have hrow : ∀ i : Nat, i < 3 → W.cell? ⟨1, i * 3, none⟩ = some (.int .i64 (fdT.getD (i * 3) 0)) ∧ W.cell? ⟨1, i * 3 + 1, none⟩ = some (.int .i64 (fdT.getD (i * 3 + 1) 0)) ∧ W.cell? ⟨1, i * 3 + 2, none⟩ = some (.int .i64 (fdT.getD (i * 3 + 2) 0)) := by
    intro i hi
    have h1 := hf i (by omega)
    rw [cellsFd] at h1
    have hlt : i < xs.length := by omega
    rw [List.getElem?_eq_getElem hlt] at h1
    have hr : xs[i].1 = fieldD i := by
      have e := congrArg (·[i]?) hrows
      simp [hlt, hi] at e
      exact e
    obtain ⟨y0, y1, y2, n, e, hcs, h2, h3, h4⟩ := trod_struct3 Tryd.underlying111 h1
    obtain ⟨z0, e0, x0, _⟩ := DataW.trod_int Tryd.underlying3 h2
    obtain ⟨z1, e1, x1, _⟩ := DataW.trod_int Tryd.underlying3 h3
    obtain ⟨z2, e2, x2, _⟩ := DataW.trod_int Tryd.underlying3 h4
    have ee : fieldD i = (.agg [y0.1, y1.1, y2.1] : DataW Unit) := by rw [← hr, e]
    rw [x0, x1, x2] at ee
    simp only [fieldD, DataW.agg.injEq, List.cons.injEq, DataW.lit.injEq, Lit.int.injEq, and_true, true_and] at ee
    obtain ⟨k0, k1, k2⟩ := ee
    have hv := World.var?_cell gFd hvar
    have q0 : cs[i * 3]? = some (.int .i64 z0) := by
      have := congrArg (·[0]?) e0
      simpa [cellsI] using this
    have q1 : cs[i * 3 + 1]? = some (.int .i64 z1) := by
      have := congrArg (·[0]?) e1
      simpa [cellsI] using this
    have q2 : cs[i * 3 + 2]? = some (.int .i64 z2) := by
      have := congrArg (·[0]?) e2
      simpa [cellsI] using this
    exact ⟨by rw [hv (i * 3), q0, k0], by rw [hv (i * 3 + 1), q1, k1], by rw [hv (i * 3 + 2), q2, k2]⟩
  intro i hi
  have hr := hrow (i / 3) (by omega)
  rcases (by omega : i = i / 3 * 3 ∨ i = i / 3 * 3 + 1 ∨ i = i / 3 * 3 + 2) with h | h | h
  · rw [h]; exact hr.1
  · rw [h]; exact hr.2.1
  · rw [h]; exact hr.2.2
theorem sizes_of {W : World} {rest : List (String × DataW Unit)} (h : laidMet Tryd.prog (("magpie/handle.sizes", Rows.laid_magpie_handle_sizes) :: rest) W) : ∀ i : Nat, i < 4 → W.cell? ⟨0, i, none⟩ = some (.int .i64 (szT.getD i 0)) := by
  obtain ⟨ps, ⟨g', t', cs, fuel, p, q, hg', ht', hvar, hd, _, _⟩, _⟩ := h
  obtain rfl := Option.some.inj (gSz.symm.trans hg')
  obtain rfl := Option.some.inj ((show (Tryd.prog.globals[0]?).map (·.type) = some 91 by kernel_rfl).symm.trans ht')
  rw [laid_sizes] at hd
  have h3 := Lib.cells_of_tab Tryd.underlying91 Tryd.underlying3 cellsI (by kernel_rfl) hd
  have hv := World.var?_cell gSz hvar
  intro i hi
  rw [hv i, ← Array.getElem?_toList, h3]
  rcases (by omega : i = 0 ∨ i = 1 ∨ i = 2 ∨ i = 3) with rfl | rfl | rfl | rfl <;> rfl
theorem htab {W : World} (h : laidMetH Tryd.prog [("magpie/handle.sizes", Rows.laid_magpie_handle_sizes), ("magpie/handle.fields", Rows.laid_magpie_handle_fields)] W) : HTab W := by
  have h' : laidMet Tryd.prog [("magpie/handle.sizes", Rows.laid_magpie_handle_sizes), ("magpie/handle.fields", Rows.laid_magpie_handle_fields)] W := h
  have h2 := h'
  obtain ⟨ps, ⟨_, _, _, _, _, q, _, _, _, _, hq, _⟩, _⟩ := h2
  exact ⟨sizes_of h', fields_of hq⟩
end Go.Proofs.YtopnkfbcphbbiaaDoor.H8
namespace Go.Proofs.YtopnkfbcphbbiaaDoor.A9
open Go.RowKit
theorem own : ownKnob Tryd.prog.godebug = none := H8.own
end Go.Proofs.YtopnkfbcphbbiaaDoor.A9
namespace Go.Proofs.YtopnkfbcphbbiaaDoor
theorem own : ownKnob Tryd.prog.godebug = none := H8.own
end Go.Proofs.YtopnkfbcphbbiaaDoor
