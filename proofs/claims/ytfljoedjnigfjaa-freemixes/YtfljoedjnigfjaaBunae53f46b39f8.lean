/-
  Helpers: FxM, FxO, FxI, FxW.
-/
import Derived.Test.YtfljoedjnigfjaaBun253c67953321
import Derived.Test.YtfljoedjnigfjaaBun35aadd81b117
namespace Go.Proofs.Ytfljoedjnigfjaa
open Go.RowKit
open A9 (Ab ArAt ArMem FrA Ar rawA useA ptrA New9 new9 intsV SrcN own_kept own_base src_one isTab tab_lt own_cell own_form own_any row_new)
open H8 (HTab below_then)

def opV (f : Nat → Option Nat) (i : Nat) : Value := .pointer ((f i).map fun x => ⟨x, 0, none⟩)
/-- arrays of the call's own, apart -/
structure XsV (B : Ab) (W : World) (g ob pb qb fb : Nat) : Prop where
  nb : ¬ B.has ob ∧ ¬ B.has pb ∧ ¬ B.has qb ∧ ¬ B.has fb
  ng : ob ≠ g ∧ pb ≠ g ∧ qb ≠ g ∧ fb ≠ g
  ap : ob ≠ pb ∧ ob ≠ qb ∧ ob ≠ fb ∧ pb ≠ qb ∧ pb ≠ fb ∧ qb ≠ fb
  lo : W.heap.size ≤ ob ∧ W.heap.size ≤ pb ∧ W.heap.size ≤ qb ∧ W.heap.size ≤ fb
  nt : noT ob ∧ noT pb ∧ noT qb ∧ noT fb
/-- is none of the named blocks -/
def notX (B : Ab) (g ob pb qb fb x : Nat) : Prop := ¬ B.has x ∧ x ≠ g ∧ x ≠ ob ∧ x ≠ pb ∧ x ≠ qb ∧ x ≠ fb
structure Xs (FT : TypeId) (FN : Nat) (B : Ab) (W w : World) (s : Ar) (g ob pb qb fb : Nat) (ov : Nat → Value) (own : Nat → List Nat) (pu : Nat → Option Pu) (po : Nat → Option Po) (mp mq cp cq : Nat → Option Nat) (fl : Nat → Int) : Prop where
  wk : Wk B W w s g mxP
  own_ : OwN B W w 6 ov fun i => basesF (own i)
  obr : w.rowIs ob 42 6 ov
  pbr : w.rowIs pb 43 6 (opV cp)
  qbr : w.rowIs qb 44 6 (opV cq)
  fbr : w.rowIs fb FT FN fun i => .int .i64 (fl i)
  onb : ∀ i, i < 6 → ∀ r, (ov i).ownBlock = some r → notX B g ob pb qb fb r
  pN : ∀ i, i < 6 → pu i = none → mp i = none
  pS : ∀ i, i < 6 → ∀ m, pu i = some m → ∃ x t, mp i = some x ∧ PuAt x w mxP ((m.b : Int) + 1) t ∧ PuT m t
  qN : ∀ i, i < 6 → po i = none → mq i = none
  qS : ∀ i, i < 6 → ∀ m, po i = some m → ∃ x t, mq i = some x ∧ PoAt x w mxP t ∧ PoT m t
  pL : ∀ i, i < 6 → ∀ x, mp i = some x → W.heap.size ≤ x ∧ notX B g ob pb qb fb x ∧ noT x ∧ ∀ j, j < 6 → (ov j).ownBlock ≠ some x
  qL : ∀ i, i < 6 → ∀ x, mq i = some x → W.heap.size ≤ x ∧ notX B g ob pb qb fb x ∧ noT x ∧ ∀ j, j < 6 → (ov j).ownBlock ≠ some x
  p2 : ∀ i j x, i < 6 → j < 6 → i ≠ j → mp i = some x → mp j ≠ some x
  q2 : ∀ i j x, i < 6 → j < 6 → i ≠ j → mq i = some x → mq j ≠ some x
  pq : ∀ i j x, i < 6 → j < 6 → mp i = some x → mq j ≠ some x
section
variable {FT : TypeId} {FN : Nat} {B : Ab} {W w w' : World} {s s' : Ar} {g ob pb qb fb : Nat} {ov : Nat → Value} {own : Nat → List Nat} {pu : Nat → Option Pu} {po : Nat → Option Po} {mp mq cp cq : Nat → Option Nat} {fl : Nat → Int}
theorem Xs.pSome (h : Xs FT FN B W w s g ob pb qb fb ov own pu po mp mq cp cq fl) {i x : Nat} (hi : i < 6) (hx : mp i = some x) : ∃ m, pu i = some m := by
  cases e : pu i with
  | none => rw [h.pN i hi e] at hx; cases hx
  | some m => exact ⟨m, rfl⟩
theorem Xs.qSome (h : Xs FT FN B W w s g ob pb qb fb ov own pu po mp mq cp cq fl) {i x : Nat} (hi : i < 6) (hx : mq i = some x) : ∃ m, po i = some m := by
  cases e : po i with
  | none => rw [h.qN i hi e] at hx; cases hx
  | some m => exact ⟨m, rfl⟩
theorem Xs.pLt (h : Xs FT FN B W w s g ob pb qb fb ov own pu po mp mq cp cq fl) {i x : Nat} (hi : i < 6) (hx : mp i = some x) : x < w.heap.size := by
  obtain ⟨m, hm⟩ := h.pSome hi hx
  obtain ⟨y, t, e, hP, -⟩ := h.pS i hi m hm
  rw [hx] at e
  cases e
  exact hP.lt
theorem Xs.qLt (h : Xs FT FN B W w s g ob pb qb fb ov own pu po mp mq cp cq fl) {i x : Nat} (hi : i < 6) (hx : mq i = some x) : x < w.heap.size := by
  obtain ⟨m, hm⟩ := h.qSome hi hx
  obtain ⟨y, t, e, hP, -⟩ := h.qS i hi m hm
  rw [hx] at e
  cases e
  exact hP.lt
/-- all else as it was: blocks that are neither the arena's nor in S -/
theorem Xs.kept (h : Xs FT FN B W w s g ob pb qb fb ov own pu po mp mq cp cq fl) (hv : XsV B W g ob pb qb fb) {S : Nat → Prop} (hW : Wk B W w' s' g mxP) (hF : FrS S w w') (hS : ∀ k, S k → B.has k) : Xs FT FN B W w' s' g ob pb qb fb ov own pu po mp mq cp cq fl := by
  have hk : ∀ k, k < w.heap.size → ¬ B.has k → w'.heap[k]? = w.heap[k]? := fun k h1 h2 => hF.block k h1 fun h3 => h2 (hS k h3)
  refine ⟨hW, ⟨fun i hi => own_kept (h.own_.row i hi) fun r hr => hk r ((h.own_.row i hi).lt r hr).2 (h.onb i hi r hr).1, h.own_.ap, h.own_.nb, hW.low, h.own_.tb⟩, h.obr.of_block (hk _ h.obr.lt hv.nb.1), h.pbr.of_block (hk _ h.pbr.lt hv.nb.2.1), h.qbr.of_block (hk _ h.qbr.lt hv.nb.2.2.1), h.fbr.of_block (hk _ h.fbr.lt hv.nb.2.2.2), h.onb, h.pN, fun i hi m hm => ?_, h.qN, fun i hi m hm => ?_, h.pL, h.qL, h.p2, h.q2, h.pq⟩
  · obtain ⟨x, t, e, hP, hT⟩ := h.pS i hi m hm
    exact ⟨x, t, e, hP.same (hk x hP.lt (h.pL i hi x e).2.1.1), hT⟩
  · obtain ⟨x, t, e, hP, hT⟩ := h.qS i hi m hm
    exact ⟨x, t, e, hP.same (hk x hP.lt (h.qL i hi x e).2.1.1), hT⟩
theorem Xs.arena (h : Xs FT FN B W w s g ob pb qb fb ov own pu po mp mq cp cq fl) (hv : XsV B W g ob pb qb fb) (hA : ArAt B w' s') (hF : FrA B w w') : Xs FT FN B W w' s' g ob pb qb fb ov own pu po mp mq cp cq fl :=
  h.kept hv (h.wk.arena hA hF) (FrS.of_arena (S := B.has) hF fun _ hk => hk) fun _ hk => hk
theorem Xs.below (h : Xs FT FN B W w s g ob pb qb fb ov own pu po mp mq cp cq fl) (hv : XsV B W g ob pb qb fb) (hb : Below w.heap.size w w') : Xs FT FN B W w' s g ob pb qb fb ov own pu po mp mq cp cq fl :=
  h.kept hv (h.wk.below hb) (FrS.of_below (S := B.has) hb) fun _ hk => hk
/-- a push's box turned with the arena -/
theorem Xs.stepP (h : Xs FT FN B W w s g ob pb qb fb ov own pu po mp mq cp cq fl) (hv : XsV B W g ob pb qb fb) {i x : Nat} (hi : i < 6) (hx : mp i = some x) {m' : Pu} {t' : Tn} (hA : ArAt B w' s') (hF : FrS (fun k => B.has k ∨ k = x) w w') (hP : PuAt x w' mxP ((m'.b : Int) + 1) t') (hT : PuT m' t') : Xs FT FN B W w' s' g ob pb qb fb ov own (upO pu i (some m')) po mp mq cp cq fl := by
  obtain ⟨x1, x2, x3, x4⟩ := h.pL i hi x hx
  obtain ⟨y1, y2, y3, y4, y5, y6⟩ := x2
  have hk : ∀ k, k < w.heap.size → ¬ B.has k → k ≠ x → w'.heap[k]? = w.heap[k]? := fun k h1 h2 h3 => hF.block k h1 fun h4 => h4.elim h2 h3
  have hW : Wk B W w' s' g mxP := h.wk.step hA hF x1 (Ne.symm y2)
  refine ⟨hW, h.own_.step hF hW.low x4, h.obr.of_block (hk _ h.obr.lt hv.nb.1 (Ne.symm y3)), h.pbr.of_block (hk _ h.pbr.lt hv.nb.2.1 (Ne.symm y4)), h.qbr.of_block (hk _ h.qbr.lt hv.nb.2.2.1 (Ne.symm y5)), h.fbr.of_block (hk _ h.fbr.lt hv.nb.2.2.2 (Ne.symm y6)), h.onb, fun j hj e => ?_, fun j hj m hm => ?_, h.qN, fun j hj m hm => ?_, h.pL, h.qL, h.p2, h.q2, h.pq⟩
  · by_cases e2 : j = i
    · subst e2
      rw [upO_same] at e
      cases e
    · rw [upO_other _ _ e2] at e
      exact h.pN j hj e
  · by_cases e2 : j = i
    · subst e2
      rw [upO_same] at hm
      cases hm
      exact ⟨x, t', hx, hP, hT⟩
    · rw [upO_other _ _ e2] at hm
      obtain ⟨y, t, e, hP2, hT2⟩ := h.pS j hj m hm
      exact ⟨y, t, e, hP2.same (hk y hP2.lt (h.pL j hj y e).2.1.1 fun e3 => h.p2 j i y hj hi e2 e (by rw [hx, e3])), hT2⟩
  · obtain ⟨y, t, e, hP2, hT2⟩ := h.qS j hj m hm
    exact ⟨y, t, e, hP2.same (hk y hP2.lt (h.qL j hj y e).2.1.1 fun e3 => h.pq i j x hi hj hx (by rw [e, e3])), hT2⟩
theorem Xs.stepQ (h : Xs FT FN B W w s g ob pb qb fb ov own pu po mp mq cp cq fl) (hv : XsV B W g ob pb qb fb) {i x : Nat} (hi : i < 6) (hx : mq i = some x) {m' : Po} {t' : Tn} (hA : ArAt B w' s') (hF : FrS (fun k => B.has k ∨ k = x) w w') (hP : PoAt x w' mxP t') (hT : PoT m' t') : Xs FT FN B W w' s' g ob pb qb fb ov own pu (upO po i (some m')) mp mq cp cq fl := by
  obtain ⟨x1, x2, x3, x4⟩ := h.qL i hi x hx
  obtain ⟨y1, y2, y3, y4, y5, y6⟩ := x2
  have hk : ∀ k, k < w.heap.size → ¬ B.has k → k ≠ x → w'.heap[k]? = w.heap[k]? := fun k h1 h2 h3 => hF.block k h1 fun h4 => h4.elim h2 h3
  have hW : Wk B W w' s' g mxP := h.wk.step hA hF x1 (Ne.symm y2)
  refine ⟨hW, h.own_.step hF hW.low x4, h.obr.of_block (hk _ h.obr.lt hv.nb.1 (Ne.symm y3)), h.pbr.of_block (hk _ h.pbr.lt hv.nb.2.1 (Ne.symm y4)), h.qbr.of_block (hk _ h.qbr.lt hv.nb.2.2.1 (Ne.symm y5)), h.fbr.of_block (hk _ h.fbr.lt hv.nb.2.2.2 (Ne.symm y6)), h.onb, h.pN, fun j hj m hm => ?_, fun j hj e => ?_, fun j hj m hm => ?_, h.pL, h.qL, h.p2, h.q2, h.pq⟩
  · obtain ⟨y, t, e, hP2, hT2⟩ := h.pS j hj m hm
    exact ⟨y, t, e, hP2.same (hk y hP2.lt (h.pL j hj y e).2.1.1 fun e3 => h.pq j i y hj hi e (by rw [hx, e3])), hT2⟩
  · by_cases e2 : j = i
    · subst e2
      rw [upO_same] at e
      cases e
    · rw [upO_other _ _ e2] at e
      exact h.qN j hj e
  · by_cases e2 : j = i
    · subst e2
      rw [upO_same] at hm
      cases hm
      exact ⟨x, t', hx, hP, hT⟩
    · rw [upO_other _ _ e2] at hm
      obtain ⟨y, t, e, hP2, hT2⟩ := h.qS j hj m hm
      exact ⟨y, t, e, hP2.same (hk y hP2.lt (h.qL j hj y e).2.1.1 fun e3 => h.q2 j i y hj hi e2 e (by rw [hx, e3])), hT2⟩
/-- .. and has ended -/
theorem Xs.endP (h : Xs FT FN B W w s g ob pb qb fb ov own pu po mp mq cp cq fl) (hv : XsV B W g ob pb qb fb) {i x : Nat} (hi : i < 6) (hx : mp i = some x) (hA : ArAt B w' s') (hF : FrS (fun k => B.has k ∨ k = x) w w') : Xs FT FN B W w' s' g ob pb qb fb ov own (upO pu i none) po (upO mp i none) mq cp cq fl := by
  obtain ⟨x1, x2, x3, x4⟩ := h.pL i hi x hx
  obtain ⟨y1, y2, y3, y4, y5, y6⟩ := x2
  have hk : ∀ k, k < w.heap.size → ¬ B.has k → k ≠ x → w'.heap[k]? = w.heap[k]? := fun k h1 h2 h3 => hF.block k h1 fun h4 => h4.elim h2 h3
  have hW : Wk B W w' s' g mxP := h.wk.step hA hF x1 (Ne.symm y2)
  have hne : ∀ j y, upO mp i none j = some y → j ≠ i ∧ mp j = some y := fun j y e => by
    by_cases e2 : j = i
    · subst e2
      rw [upO_same] at e
      cases e
    · rw [upO_other _ _ e2] at e
      exact ⟨e2, e⟩
  refine ⟨hW, h.own_.step hF hW.low x4, h.obr.of_block (hk _ h.obr.lt hv.nb.1 (Ne.symm y3)), h.pbr.of_block (hk _ h.pbr.lt hv.nb.2.1 (Ne.symm y4)), h.qbr.of_block (hk _ h.qbr.lt hv.nb.2.2.1 (Ne.symm y5)), h.fbr.of_block (hk _ h.fbr.lt hv.nb.2.2.2 (Ne.symm y6)), h.onb, fun j hj e => ?_, fun j hj m hm => ?_, h.qN, fun j hj m hm => ?_, fun j hj y e => h.pL j hj y (hne j y e).2, h.qL, fun j l y hj hl hjl e e2 => h.p2 j l y hj hl hjl (hne j y e).2 (hne l y e2).2, h.q2, fun j l y hj hl e => h.pq j l y hj hl (hne j y e).2⟩
  · by_cases e2 : j = i
    · subst e2
      exact upO_same _ _ _
    · rw [upO_other _ _ e2] at e ⊢
      exact h.pN j hj e
  · by_cases e2 : j = i
    · subst e2
      rw [upO_same] at hm
      cases hm
    · rw [upO_other _ _ e2] at hm ⊢
      obtain ⟨y, t, e, hP2, hT2⟩ := h.pS j hj m hm
      exact ⟨y, t, e, hP2.same (hk y hP2.lt (h.pL j hj y e).2.1.1 fun e3 => h.p2 j i y hj hi e2 e (by rw [hx, e3])), hT2⟩
  · obtain ⟨y, t, e, hP2, hT2⟩ := h.qS j hj m hm
    exact ⟨y, t, e, hP2.same (hk y hP2.lt (h.qL j hj y e).2.1.1 fun e3 => h.pq i j x hi hj hx (by rw [e, e3])), hT2⟩
theorem Xs.endQ (h : Xs FT FN B W w s g ob pb qb fb ov own pu po mp mq cp cq fl) (hv : XsV B W g ob pb qb fb) {i x : Nat} (hi : i < 6) (hx : mq i = some x) (hA : ArAt B w' s') (hF : FrS (fun k => B.has k ∨ k = x) w w') : Xs FT FN B W w' s' g ob pb qb fb ov own pu (upO po i none) mp (upO mq i none) cp cq fl := by
  obtain ⟨x1, x2, x3, x4⟩ := h.qL i hi x hx
  obtain ⟨y1, y2, y3, y4, y5, y6⟩ := x2
  have hk : ∀ k, k < w.heap.size → ¬ B.has k → k ≠ x → w'.heap[k]? = w.heap[k]? := fun k h1 h2 h3 => hF.block k h1 fun h4 => h4.elim h2 h3
  have hW : Wk B W w' s' g mxP := h.wk.step hA hF x1 (Ne.symm y2)
  have hne : ∀ j y, upO mq i none j = some y → j ≠ i ∧ mq j = some y := fun j y e => by
    by_cases e2 : j = i
    · subst e2
      rw [upO_same] at e
      cases e
    · rw [upO_other _ _ e2] at e
      exact ⟨e2, e⟩
  refine ⟨hW, h.own_.step hF hW.low x4, h.obr.of_block (hk _ h.obr.lt hv.nb.1 (Ne.symm y3)), h.pbr.of_block (hk _ h.pbr.lt hv.nb.2.1 (Ne.symm y4)), h.qbr.of_block (hk _ h.qbr.lt hv.nb.2.2.1 (Ne.symm y5)), h.fbr.of_block (hk _ h.fbr.lt hv.nb.2.2.2 (Ne.symm y6)), h.onb, h.pN, fun j hj m hm => ?_, fun j hj e => ?_, fun j hj m hm => ?_, h.pL, fun j hj y e => h.qL j hj y (hne j y e).2, h.p2, fun j l y hj hl hjl e e2 => h.q2 j l y hj hl hjl (hne j y e).2 (hne l y e2).2, fun j l y hj hl e e2 => h.pq j l y hj hl e (hne l y e2).2⟩
  · obtain ⟨y, t, e, hP2, hT2⟩ := h.pS j hj m hm
    exact ⟨y, t, e, hP2.same (hk y hP2.lt (h.pL j hj y e).2.1.1 fun e3 => h.pq j i y hj hi e (by rw [hx, e3])), hT2⟩
  · by_cases e2 : j = i
    · subst e2
      exact upO_same _ _ _
    · rw [upO_other _ _ e2] at e ⊢
      exact h.qN j hj e
  · by_cases e2 : j = i
    · subst e2
      rw [upO_same] at hm
      cases hm
    · rw [upO_other _ _ e2] at hm ⊢
      obtain ⟨y, t, e, hP2, hT2⟩ := h.qS j hj m hm
      exact ⟨y, t, e, hP2.same (hk y hP2.lt (h.qL j hj y e).2.1.1 fun e3 => h.q2 j i y hj hi e2 e (by rw [hx, e3])), hT2⟩
/-- one of the four arrays' cells turned: what that leaves of the rest -/
theorem Xs.wkSet (h : Xs FT FN B W w s g ob pb qb fb ov own pu po mp mq cp cq fl) {a : Nat} (ha : ¬ B.has a) (hn : noT a) (hl : W.heap.size ≤ a) (hg : a ≠ g) (i : Nat) (v : Value) : Wk B W (w.setCell ⟨a, i, none⟩ v) s g mxP :=
  ⟨h.wk.ar.setOther ha hn.1 hn.2 i _, h.wk.low.setCell (p := ⟨a, i, none⟩) hl v, h.wk.own, (Below.heap_setCell _ _ _ _ (Ne.symm hg)).trans h.wk.bx, h.wk.gB, h.wk.gW⟩
theorem opV_up (f : Nat → Option Nat) (i : Nat) (v : Option Nat) (j : Nat) : (if j = i then .pointer (v.map fun x => ⟨x, 0, none⟩) else opV f j) = opV (upO f i v) j := by
  unfold opV upO
  split <;> rfl
theorem Xs.setPc (h : Xs FT FN B W w s g ob pb qb fb ov own pu po mp mq cp cq fl) (hv : XsV B W g ob pb qb fb) (i : Nat) (v : Option Nat) : Xs FT FN B W (w.setCell ⟨pb, i, none⟩ (.pointer (v.map fun x => ⟨x, 0, none⟩))) s g ob pb qb fb ov own pu po mp mq (upO cp i v) cq fl := by
  have hs : ∀ j, j ≠ pb → (w.setCell ⟨pb, i, none⟩ (.pointer (v.map fun x => ⟨x, 0, none⟩))).heap[j]? = w.heap[j]? := fun j hj => Below.heap_setCell _ _ _ _ hj
  refine ⟨h.wkSet hv.nb.2.1 hv.nt.2.1 hv.lo.2.1 hv.ng.2.1 i _, h.own_.setOther (fun j hj e => (h.onb j hj pb e).2.2.2.1 rfl) hv.lo.2.1 i _, h.obr.of_block (hs _ hv.ap.1), (h.pbr.set i _).congr fun j _ => opV_up cp i v j, h.qbr.of_block (hs _ (Ne.symm hv.ap.2.2.2.1)), h.fbr.of_block (hs _ (Ne.symm hv.ap.2.2.2.2.1)), h.onb, h.pN, fun j hj m hm => ?_, h.qN, fun j hj m hm => ?_, h.pL, h.qL, h.p2, h.q2, h.pq⟩
  · obtain ⟨y, t, e, hP2, hT2⟩ := h.pS j hj m hm
    exact ⟨y, t, e, hP2.same (hs y (h.pL j hj y e).2.1.2.2.2.1), hT2⟩
  · obtain ⟨y, t, e, hP2, hT2⟩ := h.qS j hj m hm
    exact ⟨y, t, e, hP2.same (hs y (h.qL j hj y e).2.1.2.2.2.1), hT2⟩
theorem Xs.setQc (h : Xs FT FN B W w s g ob pb qb fb ov own pu po mp mq cp cq fl) (hv : XsV B W g ob pb qb fb) (i : Nat) (v : Option Nat) : Xs FT FN B W (w.setCell ⟨qb, i, none⟩ (.pointer (v.map fun x => ⟨x, 0, none⟩))) s g ob pb qb fb ov own pu po mp mq cp (upO cq i v) fl := by
  have hs : ∀ j, j ≠ qb → (w.setCell ⟨qb, i, none⟩ (.pointer (v.map fun x => ⟨x, 0, none⟩))).heap[j]? = w.heap[j]? := fun j hj => Below.heap_setCell _ _ _ _ hj
  refine ⟨h.wkSet hv.nb.2.2.1 hv.nt.2.2.1 hv.lo.2.2.1 hv.ng.2.2.1 i _, h.own_.setOther (fun j hj e => (h.onb j hj qb e).2.2.2.2.1 rfl) hv.lo.2.2.1 i _, h.obr.of_block (hs _ hv.ap.2.1), h.pbr.of_block (hs _ hv.ap.2.2.2.1), (h.qbr.set i _).congr fun j _ => opV_up cq i v j, h.fbr.of_block (hs _ (Ne.symm hv.ap.2.2.2.2.2)), h.onb, h.pN, fun j hj m hm => ?_, h.qN, fun j hj m hm => ?_, h.pL, h.qL, h.p2, h.q2, h.pq⟩
  · obtain ⟨y, t, e, hP2, hT2⟩ := h.pS j hj m hm
    exact ⟨y, t, e, hP2.same (hs y (h.pL j hj y e).2.1.2.2.2.2.1), hT2⟩
  · obtain ⟨y, t, e, hP2, hT2⟩ := h.qS j hj m hm
    exact ⟨y, t, e, hP2.same (hs y (h.qL j hj y e).2.1.2.2.2.2.1), hT2⟩
theorem Xs.setFc (h : Xs FT FN B W w s g ob pb qb fb ov own pu po mp mq cp cq fl) (hv : XsV B W g ob pb qb fb) (i : Nat) (v : Int) : Xs FT FN B W (w.setCell ⟨fb, i, none⟩ (.int .i64 v)) s g ob pb qb fb ov own pu po mp mq cp cq (upH fl i v) := by
  have hs : ∀ j, j ≠ fb → (w.setCell ⟨fb, i, none⟩ (.int .i64 v)).heap[j]? = w.heap[j]? := fun j hj => Below.heap_setCell _ _ _ _ hj
  refine ⟨h.wkSet hv.nb.2.2.2 hv.nt.2.2.2 hv.lo.2.2.2 hv.ng.2.2.2 i _, h.own_.setOther (fun j hj e => (h.onb j hj fb e).2.2.2.2.2 rfl) hv.lo.2.2.2 i _, h.obr.of_block (hs _ hv.ap.2.2.1), h.pbr.of_block (hs _ hv.ap.2.2.2.2.1), h.qbr.of_block (hs _ hv.ap.2.2.2.2.2), (h.fbr.set i _).congr fun j _ => ?_, h.onb, h.pN, fun j hj m hm => ?_, h.qN, fun j hj m hm => ?_, h.pL, h.qL, h.p2, h.q2, h.pq⟩
  · unfold upH
    split <;> rfl
  · obtain ⟨y, t, e, hP2, hT2⟩ := h.pS j hj m hm
    exact ⟨y, t, e, hP2.same (hs y (h.pL j hj y e).2.1.2.2.2.2.2), hT2⟩
  · obtain ⟨y, t, e, hP2, hT2⟩ := h.qS j hj m hm
    exact ⟨y, t, e, hP2.same (hs y (h.qL j hj y e).2.1.2.2.2.2.2), hT2⟩
theorem Xs.new_not (h : Xs FT FN B W w s g ob pb qb fb ov own pu po mp mq cp cq fl) {x : Nat} (hx : w.heap.size ≤ x) : notX B g ob pb qb fb x := by
  have h1 := h.wk.glt
  have h2 := h.obr.lt
  have h3 := h.pbr.lt
  have h4 := h.qbr.lt
  have h5 := h.fbr.lt
  exact ⟨fun hb => by have := h.wk.ar.lt hb; omega, by omega, by omega, by omega, by omega, by omega⟩
/-- a push that is made -/
theorem Xs.newP (h : Xs FT FN B W w s g ob pb qb fb ov own pu po mp mq cp cq fl) (hv : XsV B W g ob pb qb fb) (hT : HTab W) {i x b : Nat} (hi : i < 6) (hx : w.heap.size ≤ x) (hb : Below w.heap.size w w') (hP : PuAt x w' mxP ((b : Int) + 1) ⟨6, 0, 0, 0⟩) : Xs FT FN B W w' s g ob pb qb fb ov own (upO pu i (some ⟨b, 0, 0⟩)) po (upO mp i (some x)) mq cp cq fl := by
  have h2 := h.below hv hb
  have hl := h.wk.low.size
  refine ⟨h2.wk, h2.own_, h2.obr, h2.pbr, h2.qbr, h2.fbr, h2.onb, fun j hj e => ?_, fun j hj m hm => ?_, h2.qN, h2.qS, fun j hj y e => ?_, h2.qL, fun j l y hj hl2 hjl e e3 => ?_, h2.q2, fun j l y hj hl2 e e3 => ?_⟩
  · by_cases e2 : j = i
    · subst e2
      rw [upO_same] at e
      cases e
    · rw [upO_other _ _ e2] at e ⊢
      exact h.pN j hj e
  · by_cases e2 : j = i
    · subst e2
      rw [upO_same] at hm
      cases hm
      exact ⟨x, _, upO_same _ _ _, hP, rfl, rfl, fun e => by simp at e, fun e => by simp at e⟩
    · rw [upO_other _ _ e2] at hm ⊢
      exact h2.pS j hj m hm
  · by_cases e2 : j = i
    · subst e2
      rw [upO_same] at e
      cases e
      exact ⟨by omega, h.new_not hx, noT_new (hT.below h.wk.low) hx, fun l hl2 e3 => by have := ((h.own_.row l hl2).lt x e3).2; omega⟩
    · rw [upO_other _ _ e2] at e
      exact h.pL j hj y e
  · by_cases e2 : j = i
    · subst e2
      rw [upO_same] at e
      cases e
      rw [upO_other _ _ (Ne.symm hjl)] at e3
      have := h.pLt hl2 e3
      omega
    · rw [upO_other _ _ e2] at e
      by_cases e4 : l = i
      · subst e4
        rw [upO_same] at e3
        cases e3
        have := h.pLt hj e
        omega
      · rw [upO_other _ _ e4] at e3
        exact h.p2 j l y hj hl2 hjl e e3
  · by_cases e2 : j = i
    · subst e2
      rw [upO_same] at e
      cases e
      have := h.qLt hl2 e3
      omega
    · rw [upO_other _ _ e2] at e
      exact h.pq j l y hj hl2 e e3
theorem Xs.newQ (h : Xs FT FN B W w s g ob pb qb fb ov own pu po mp mq cp cq fl) (hv : XsV B W g ob pb qb fb) (hT : HTab W) {i x : Nat} (hi : i < 6) (hx : w.heap.size ≤ x) (hb : Below w.heap.size w w') (hP : PoAt x w' mxP ⟨6, 0, 0, 0⟩) : Xs FT FN B W w' s g ob pb qb fb ov own pu (upO po i (some ⟨0, 0, 0⟩)) mp (upO mq i (some x)) cp cq fl := by
  have h2 := h.below hv hb
  have hl := h.wk.low.size
  refine ⟨h2.wk, h2.own_, h2.obr, h2.pbr, h2.qbr, h2.fbr, h2.onb, h2.pN, h2.pS, fun j hj e => ?_, fun j hj m hm => ?_, h2.pL, fun j hj y e => ?_, h2.p2, fun j l y hj hl2 hjl e e3 => ?_, fun j l y hj hl2 e e3 => ?_⟩
  · by_cases e2 : j = i
    · subst e2
      rw [upO_same] at e
      cases e
    · rw [upO_other _ _ e2] at e ⊢
      exact h.qN j hj e
  · by_cases e2 : j = i
    · subst e2
      rw [upO_same] at hm
      cases hm
      exact ⟨x, _, upO_same _ _ _, hP, rfl, rfl, fun e => by simp at e, fun e => by simp at e⟩
    · rw [upO_other _ _ e2] at hm ⊢
      exact h2.qS j hj m hm
  · by_cases e2 : j = i
    · subst e2
      rw [upO_same] at e
      cases e
      exact ⟨by omega, h.new_not hx, noT_new (hT.below h.wk.low) hx, fun l hl2 e3 => by have := ((h.own_.row l hl2).lt x e3).2; omega⟩
    · rw [upO_other _ _ e2] at e
      exact h.qL j hj y e
  · by_cases e2 : j = i
    · subst e2
      rw [upO_same] at e
      cases e
      rw [upO_other _ _ (Ne.symm hjl)] at e3
      have := h.qLt hl2 e3
      omega
    · rw [upO_other _ _ e2] at e
      by_cases e4 : l = i
      · subst e4
        rw [upO_same] at e3
        cases e3
        have := h.qLt hj e
        omega
      · rw [upO_other _ _ e4] at e3
        exact h.q2 j l y hj hl2 hjl e e3
  · by_cases e2 : l = i
    · subst e2
      rw [upO_same] at e3
      cases e3
      have := h.pLt hj e
      omega
    · rw [upO_other _ _ e2] at e3
      exact h.pq j l y hj hl2 e e3
end
end Go.Proofs.Ytfljoedjnigfjaa
namespace Go.Proofs.Ytfljoedjnigfjaa
open Go.RowKit
open A9 (Ab ArAt ArMem FrA Ar rawA useA ptrA New9 new9 intsV SrcN own_kept own_base src_one isTab tab_lt own_cell own_form own_any row_new)
open H8 (HTab below_then)

section
variable {FT : TypeId} {FN : Nat} {B : Ab} {W w w' : World} {s s' : Ar} {g ob pb qb fb : Nat} {ov : Nat → Value} {own : Nat → List Nat} {pu : Nat → Option Pu} {po : Nat → Option Po} {mp mq cp cq : Nat → Option Nat} {fl : Nat → Int}
theorem upX_own (xs : Nat → List Nat) (k : Nat) (l : List Nat) : upX (fun i => basesF (xs i)) k (basesF l) = fun i => basesF (upO xs k l i) := by
  funext j
  unfold upX upO
  split <;> rfl
/-- a row's place among its kind turned: w is where all but the row itself is as it was -/
theorem Xs.setO' (h : Xs FT FN B W w s g ob pb qb fb ov own pu po mp mq cp cq fl) (hv : XsV B W g ob pb qb fb) {i : Nat} {v : Value} {l : List Nat} (hW : Wk B W w' s g mxP) (hk : ∀ j, j < w.heap.size → (ov i).ownBlock ≠ some j → w'.heap[j]? = w.heap[j]?) (hi : i < 6) (hown : OwN B W w' 6 (upV ov i v) (upX (fun i => basesF (own i)) i (basesF l))) (hn : ∀ r, v.ownBlock = some r → notX B g ob pb qb fb r ∧ (∀ j, j < 6 → mp j ≠ some r) ∧ ∀ j, j < 6 → mq j ≠ some r) :
    Xs FT FN B W (w'.setCell ⟨ob, i, none⟩ v) s g ob pb qb fb (upV ov i v) (upO own i l) pu po mp mq cp cq fl := by
  have hs : ∀ j, j ≠ ob → (w'.setCell ⟨ob, i, none⟩ v).heap[j]? = w'.heap[j]? := fun j hj => Below.heap_setCell _ _ _ _ hj
  have hr : ∀ r, (ov i).ownBlock = some r → notX B g ob pb qb fb r := fun r hr => h.onb i hi r hr
  have hb : ∀ j, j < w.heap.size → (∀ r, (ov i).ownBlock = some r → r ≠ j) → w'.heap[j]? = w.heap[j]? := fun j hj hne => hk j hj fun e => hne j e rfl
  have hob := hb ob h.obr.lt fun r e => (hr r e).2.2.1
  have hpb := hb pb h.pbr.lt fun r e => (hr r e).2.2.2.1
  have hqb := hb qb h.qbr.lt fun r e => (hr r e).2.2.2.2.1
  have hfb := hb fb h.fbr.lt fun r e => (hr r e).2.2.2.2.2
  have honb : ∀ j, j < 6 → ∀ r, (upV ov i v j).ownBlock = some r → notX B g ob pb qb fb r := fun j hj r e => by
    by_cases e2 : j = i
    · subst e2
      rw [upV_same] at e
      exact (hn r e).1
    · rw [upV_other _ _ e2] at e
      exact h.onb j hj r e
  rw [upX_own] at hown
  refine ⟨⟨hW.ar.setOther hv.nb.1 hv.nt.1.1 hv.nt.1.2 i _, hW.low.setCell (p := ⟨ob, i, none⟩) hv.lo.1 v, hW.own, (hs g (Ne.symm hv.ng.1)).trans hW.bx, hW.gB, hW.gW⟩, hown.setOther (fun j hj e => (honb j hj ob e).2.2.1 rfl) hv.lo.1 i _, ((h.obr.of_block hob).set i _).congr fun j _ => ?_, (h.pbr.of_block hpb).of_block (hs _ (Ne.symm hv.ap.1)), (h.qbr.of_block hqb).of_block (hs _ (Ne.symm hv.ap.2.1)), (h.fbr.of_block hfb).of_block (hs _ (Ne.symm hv.ap.2.2.1)), honb, h.pN, fun j hj m hm => ?_, h.qN, fun j hj m hm => ?_, fun j hj x e => ?_, fun j hj x e => ?_, h.p2, h.q2, h.pq⟩
  · unfold upV
    split <;> rfl
  · obtain ⟨y, t, e, hP2, hT2⟩ := h.pS j hj m hm
    exact ⟨y, t, e, (hP2.same (hb y hP2.lt fun r e2 e3 => (h.pL j hj y e).2.2.2 i hi (by rw [e2, e3]))).same (hs y (h.pL j hj y e).2.1.2.2.1), hT2⟩
  · obtain ⟨y, t, e, hP2, hT2⟩ := h.qS j hj m hm
    exact ⟨y, t, e, (hP2.same (hb y hP2.lt fun r e2 e3 => (h.qL j hj y e).2.2.2 i hi (by rw [e2, e3]))).same (hs y (h.qL j hj y e).2.1.2.2.1), hT2⟩
  · obtain ⟨x1, x2, x3, x4⟩ := h.pL j hj x e
    refine ⟨x1, x2, x3, fun l hl e2 => ?_⟩
    by_cases e3 : l = i
    · subst e3
      rw [upV_same] at e2
      exact (hn x e2).2.1 j hj e
    · rw [upV_other _ _ e3] at e2
      exact x4 l hl e2
  · obtain ⟨x1, x2, x3, x4⟩ := h.qL j hj x e
    refine ⟨x1, x2, x3, fun l hl e2 => ?_⟩
    by_cases e3 : l = i
    · subst e3
      rw [upV_same] at e2
      exact (hn x e2).2.2 j hj e
    · rw [upV_other _ _ e3] at e2
      exact x4 l hl e2
theorem Xs.app (ty : TypeId) (h : Xs FT FN B W w s g ob pb qb fb ov own pu po mp mq cp cq fl) (hv : XsV B W g ob pb qb fb) {i : Nat} (hi : i < 6) {ad : Option Addr} {cap : Nat} {x : Nat} (hs : SrcN w ad 1 [8 * (x : Int)]) (hn : (own i).length ≤ 900) :
    ∃ va vn vc w', (Builtin.append_ #[22, 22] ty #[ov i, .slice ad 1 cap]).run Try.prog w = .ok (.slice va vn vc) w' ∧ Xs FT FN B W (w'.setCell ⟨ob, i, none⟩ (.slice va vn vc)) s g ob pb qb fb (upV ov i (.slice va vn vc)) (upO own i (own i ++ [x])) pu po mp mq cp cq fl ∧ w'.rowIs ob 42 6 ov := by
  obtain ⟨v', w', hr, hA, ho, hb, hsz, hbk⟩ := h.own_.grow ty h.wk.ar (k := i) hi (cap := cap) hs (by rw [basesF_len]; simp; omega)
  have hf := ho.row i hi
  rw [upV_same] at hf
  obtain ⟨va, vc, rfl⟩ := own_any hf
  have hkb : ∀ j, j < w.heap.size → (∀ r, (ov i).ownBlock = some r → r ≠ j) → w'.heap[j]? = w.heap[j]? := fun j hj hne => hb j hj fun e => hne j e rfl
  have hW : Wk B W w' s g mxP := ⟨hA, ho.low, h.wk.own, (hkb g h.wk.glt fun r e => (h.onb i hi r e).2.1).trans h.wk.bx, h.wk.gB, h.wk.gW⟩
  have e : basesF (own i ++ [x]) = basesF (own i) ++ [8 * (x : Int)] := by simp [basesF]
  refine ⟨va, _, vc, w', hr, h.setO' hv hW (fun j hj hne => hb j hj hne) hi (by rw [e]; exact ho) (fun r e2 => ?_), h.obr.of_block (hkb ob h.obr.lt fun r e => (h.onb i hi r e).2.2.1)⟩
  rcases hbk with e3 | e3
  · rw [e3] at e2
    exact ⟨h.onb i hi r e2, fun j hj e4 => (h.pL j hj r e4).2.2.2 i hi e2, fun j hj e4 => (h.qL j hj r e4).2.2.2 i hi e2⟩
  · rw [e3] at e2
    have e4 : w.heap.size = r := Option.some.inj e2
    exact ⟨h.new_not (by omega), fun j hj e5 => by have := h.pLt hj e5; omega, fun j hj e5 => by have := h.qLt hj e5; omega⟩
theorem list_appX {ops : Array Oper} {rest : List Oper} {o : Oper} {a : Act} {Q : Exit → Act → World → Prop} (hgd : o.guard = none) (x y : Operand)
    (ho : o.op = .call { callee := .builtin .append, args := #[x, y], argTypes := #[22, 22] }) (h : Xs FT FN B W w s g ob pb qb fb ov own pu po mp mq cp cq fl) (hv : XsV B W g ob pb qb fb) {i : Nat} (hi : i < 6) {ad : Option Addr} {cap : Nat} {z : Nat} {u : Value} (hu : ov i = u) (hx : a.eval x = u) (hy : a.eval y = .slice ad 1 cap) (hs : SrcN w ad 1 [8 * (z : Int)]) (hn : (own i).length ≤ 900)
    (hK : ∀ va vn vc w', Xs FT FN B W (w'.setCell ⟨ob, i, none⟩ (.slice va vn vc)) s g ob pb qb fb (upV ov i (.slice va vn vc)) (upO own i (own i ++ [z])) pu po mp mq cp cq fl → w'.rowIs ob 42 6 ov → wpList Try.prog ops Q rest (a.put o.dst (.slice va vn vc)) w') : wpList Try.prog ops Q (o :: rest) a w := by
  refine wpList_plain hgd fun K' hK' => ?_
  obtain ⟨va, vn, vc, w', hr, h2, h3⟩ := h.app o.type hv hi (cap := cap) hs hn
  rw [hu] at hr
  unfold Oper.wp execOp
  simp only [ho, resolve, invoke, builtin, Sem.run_bind, Sem.run_pure, Result.andThen_ok, List.map_toArray, List.map_cons, List.map_nil, hx, hy, hr]
  exact hK' _ _ (hK va vn vc w' h2 h3)
theorem Xs.shrink (h : Xs FT FN B W w s g ob pb qb fb ov own pu po mp mq cp cq fl) (hv : XsV B W g ob pb qb fb) {i r n cap : Nat} (hi : i < 6) (hov : ov i = .slice (some ⟨r, 0, none⟩) (n + 1) cap) {ys : List Nat} {d : Nat} (hx : own i = ys ++ [d]) (hn : ys.length = n) :
    Xs FT FN B W (w.setCell ⟨ob, i, none⟩ (.slice (some ⟨r, 0, none⟩) n cap)) s g ob pb qb fb (upV ov i (.slice (some ⟨r, 0, none⟩) n cap)) (upO own i ys) pu po mp mq cp cq fl := by
  have hb : (ov i).ownBlock = some r := by rw [hov]; rfl
  have ho := h.own_.row i hi
  have hl : (basesF (own i)).length = n + 1 := by rw [basesF_len, hx]; simp [hn]
  simp only [hl] at ho
  rw [hov] at ho
  have h2 := own_shrink ho (Nat.le_succ n)
  have e : (basesF (own i)).take n = basesF ys := by rw [hx, ← hn]; simp [basesF]
  rw [e] at h2
  refine h.setO' hv h.wk (fun j _ _ => rfl) hi (h.own_.put (by rw [basesF_len, hn]; exact h2) (fun j hj hne r' hr' => ?_) fun r' hr' => ?_) fun r' hr' => ?_
  · have e2 : r = r' := Option.some.inj hr'
    subst e2
    exact h.own_.ap i j hi hj (Ne.symm hne) r hb
  · have e2 : r = r' := Option.some.inj hr'
    subst e2
    exact h.own_.nb i hi r hb
  · have e2 : r = r' := Option.some.inj hr'
    subst e2
    exact ⟨h.onb i hi r hb, fun j hj e4 => (h.pL j hj r e4).2.2.2 i hi hb, fun j hj e4 => (h.qL j hj r e4).2.2.2 i hi hb⟩
/-- what a step of a push leaves -/
def PuX (FT : TypeId) (FN : Nat) (B : Ab) (W : World) (g ob pb qb fb k : Nat) (ov : Nat → Value) (own : Nat → List Nat) (pu : Nat → Option Pu) (po : Nat → Option Po) (mp mq cp cq : Nat → Option Nat) (fl : Nat → Int) (T : Nat) (s : Ar) (i : Nat) (m : Pu) (e : Ending) (w' : World) : Prop :=
  ∃ s' done, e = .returned (.bool done) ∧ s'.uses = wrap64 (s.uses + 1) ∧ s'.bad = s.bad ∧
    (done = false → ∃ m', rkP (s'.raw 6) m' < rkP (s.raw 6) m ∧ Xs FT FN B W w' s' g ob pb qb fb ov own (upO pu i (some m')) po mp mq cp cq fl ∧ Mix k s' own (upO pu i (some m')) po (T + 1)) ∧
    (done = true → Xs FT FN B W w' s' g ob pb qb fb ov own (upO pu i none) po (upO mp i none) mq cp cq fl ∧ Mix k s' own (upO pu i none) po (T + 1))
theorem Xs.pushStep (h : Xs FT FN B W w s g ob pb qb fb ov own pu po mp mq cp cq fl) (hv : XsV B W g ob pb qb fb) {k T i x : Nat} (hM : Mix k s own pu po T) (hT : T ≤ 1000000) (hik : i < k) (hi : i < 6) (hx : mp i = some x) {m : Pu} (hm : pu i = some m) :
    Calls Try.prog 19 #[.pointer (some ⟨x, 0, none⟩), ptrA B] w (PuX FT FN B W g ob pb qb fb k ov own pu po mp mq cp cq fl T s i m) := by
  obtain ⟨y, t, e, hP, hPT⟩ := h.pS i hi m hm
  rw [hx] at e
  cases e
  obtain ⟨-, x2, x3, -⟩ := h.pL i hi x hx
  have ho := push_step hM hT hik hm hPT
  have hph := hPT.2.1
  obtain ⟨-, hX, -⟩ := hM.ex.choose_spec.choose_spec.choose_spec
  have hle := (hX.P i hik m hm).2.2.2
  refine (PuStep_any h.wk.ar x2.1 x3 hP (by omega)).mono fun e w' hp => ?_
  obtain ⟨h1, h2, h3, h4⟩ := hp
  refine ⟨_, _, h1, ho.us, ho.bd, fun hd => ?_, fun hd => ⟨h.endP hv hi hx h2 h4, ho.en hd⟩⟩
  obtain ⟨m', hb, hrk, hT2, hM2⟩ := ho.go hd
  refine ⟨m', hrk, h.stepP hv hi hx h2 h4 (by rw [hb]; exact h3) hT2, hM2⟩
def PoX (FT : TypeId) (FN : Nat) (B : Ab) (W : World) (g ob pb qb fb k : Nat) (ov : Nat → Value) (own : Nat → List Nat) (pu : Nat → Option Pu) (po : Nat → Option Po) (mp mq cp cq : Nat → Option Nat) (fl : Nat → Int) (T : Nat) (s : Ar) (i x : Nat) (m : Po) (e : Ending) (w' : World) : Prop :=
  ∃ s' done, e = .returned (.bool done) ∧ s'.uses = wrap64 (s.uses + 1) ∧ s'.bad = s.bad ∧
    (done = false → ∃ m', rkQ (s'.raw 6) m' < rkQ (s.raw 6) m ∧ Xs FT FN B W w' s' g ob pb qb fb ov own pu (upO po i (some m')) mp mq cp cq fl ∧ Mix k s' own pu (upO po i (some m')) (T + 1)) ∧
    (done = true → ∃ t, PoAt x w' mxP t ∧ Xs FT FN B W w' s' g ob pb qb fb ov own pu (upO po i none) mp (upO mq i none) cp cq fl ∧ notX B g ob pb qb fb x ∧
      ((baseF t = (0, false) ∧ Mix k s' own pu (upO po i none) (T + 1)) ∨ ∃ b : Nat, b < 32 ∧ baseF t = (8 * (b : Int), true) ∧ Mix k s' (upO own i (own i ++ [b])) pu (upO po i none) (T + 1)))
theorem Xs.popStep (h : Xs FT FN B W w s g ob pb qb fb ov own pu po mp mq cp cq fl) (hv : XsV B W g ob pb qb fb) {k T i x : Nat} (hM : Mix k s own pu po T) (hT : T ≤ 1000000) (hik : i < k) (hi : i < 6) (hx : mq i = some x) {m : Po} (hm : po i = some m) :
    Calls Try.prog 20 #[.pointer (some ⟨x, 0, none⟩), ptrA B] w (PoX FT FN B W g ob pb qb fb k ov own pu po mp mq cp cq fl T s i x m) := by
  obtain ⟨y, t, e, hP, hPT⟩ := h.qS i hi m hm
  rw [hx] at e
  cases e
  obtain ⟨-, x2, x3, -⟩ := h.qL i hi x hx
  have ho := pop_step hM hT hik hm hPT
  have hph := hPT.2.1
  obtain ⟨-, hX, -⟩ := hM.ex.choose_spec.choose_spec.choose_spec
  have hle := (hX.Q i hik m hm).2.2
  refine (PoStep_any h.wk.ar x2.1 x3 hP (by omega)).mono fun e w' hp => ?_
  obtain ⟨h1, h2, h3, h4⟩ := hp
  refine ⟨_, _, h1, ho.us, ho.bd, fun hd => ?_, fun hd => ⟨_, h3, h.endQ hv hi hx h2 h4, x2, ho.en hd⟩⟩
  obtain ⟨m', hrk, hT2, hM2⟩ := ho.go hd
  exact ⟨m', hrk, h.stepQ hv hi hx h2 h4 h3 hT2, hM2⟩
end
end Go.Proofs.Ytfljoedjnigfjaa
namespace Go.Proofs.Ytfljoedjnigfjaa
open Go.RowKit
open A9 (Ab ArAt ArMem FrA Ar rawA useA ptrA New9 new9 intsV SrcN own_kept own_base src_one isTab tab_lt own_cell own_form own_any row_new)
open H8 (HTab below_then)

/-- three arrays, apart -/
structure InV (B : Ab) (W : World) (g ob pb qb : Nat) : Prop where
  nb : ¬ B.has ob ∧ ¬ B.has pb ∧ ¬ B.has qb
  ng : ob ≠ g ∧ pb ≠ g ∧ qb ≠ g
  ap : ob ≠ pb ∧ ob ≠ qb ∧ pb ≠ qb
  lo : W.heap.size ≤ ob ∧ W.heap.size ≤ pb ∧ W.heap.size ≤ qb
  nt : noT ob ∧ noT pb ∧ noT qb
structure Ini (B : Ab) (W w : World) (s : Ar) (g ob pb qb : Nat) (ov : Nat → Value) (i : Nat) : Prop where
  wk : Wk B W w s g mxP
  own_ : OwN B W w 6 ov fun j => basesF (own0 i j)
  obr : w.rowIs ob 42 6 ov
  pbr : w.rowIs pb 43 6 (opV fun _ => none)
  qbr : w.rowIs qb 44 6 (opV fun _ => none)
  onb : ∀ j, j < 6 → ∀ r, (ov j).ownBlock = some r → ¬ B.has r ∧ r ≠ g ∧ r ≠ ob ∧ r ≠ pb ∧ r ≠ qb
theorem own0_succ (i : Nat) : own0 (i + 1) = upO (own0 i) i [2 * i, 2 * i + 1] := by
  funext j
  unfold own0 upO
  by_cases e : j = i
  · subst e
    rw [if_pos (by omega), if_pos rfl]
  · rw [if_neg e]
    show _ = if j < i then [2 * j, 2 * j + 1] else []
    by_cases h : j < i
    · rw [if_pos h, if_pos (by omega)]
    · rw [if_neg h, if_neg (by omega)]
theorem Ini.init {B : Ab} {W w2 : World} {s : Ar} {g : Nat} (h : Wk B W w2 s g mxP) (hT : HTab W) :
    Ini B W (((w2.alloc (.cells (Array.replicate 6 (.slice none 0 0)) 42 (0, 0))).alloc (.cells (Array.replicate 6 (.pointer none)) 43 (0, 0))).alloc (.cells (Array.replicate 6 (.pointer none)) 44 (0, 0))) s g w2.heap.size (w2.heap.size + 1) (w2.heap.size + 2) (fun _ => .slice none 0 0) 0 ∧ InV B W g w2.heap.size (w2.heap.size + 1) (w2.heap.size + 2) := by
  have hr1 := row_new w2 (.slice none 0 0) 6 42 _ rfl
  generalize ho1 : Obj.cells (Array.replicate 6 (Value.slice none 0 0)) 42 (0, 0) = o1 at *
  have hz1 : (w2.alloc o1).heap.size = w2.heap.size + 1 := by simp
  have hr2 := row_new (w2.alloc o1) (.pointer none) 6 43 _ rfl
  generalize ho2 : Obj.cells (Array.replicate 6 (Value.pointer none)) 43 (0, 0) = o2 at *
  have hz2 : ((w2.alloc o1).alloc o2).heap.size = w2.heap.size + 2 := by simp
  have hr3 := row_new ((w2.alloc o1).alloc o2) (.pointer none) 6 44 _ rfl
  generalize ho3 : Obj.cells (Array.replicate 6 (Value.pointer none)) 44 (0, 0) = o3 at *
  rw [hz1] at hr2
  rw [hz2] at hr3
  have hl1 : Below w2.heap.size w2 (w2.alloc o1) := (Below.refl _ _).alloc (Nat.le_refl _) _
  have hl2 : Below w2.heap.size w2 ((w2.alloc o1).alloc o2) := hl1.alloc hl1.size _
  have hl3 : Below w2.heap.size w2 (((w2.alloc o1).alloc o2).alloc o3) := hl2.alloc hl2.size _
  have hlow := h.low.size
  have hg := h.glt
  have e1 : ((w2.alloc o1).alloc o2).heap[w2.heap.size]? = (w2.alloc o1).heap[w2.heap.size]? := Below.heap_alloc _ _ _ (by rw [hz1]; omega)
  have e2 : (((w2.alloc o1).alloc o2).alloc o3).heap[w2.heap.size]? = ((w2.alloc o1).alloc o2).heap[w2.heap.size]? := Below.heap_alloc _ _ _ (by rw [hz2]; omega)
  have e3 : (((w2.alloc o1).alloc o2).alloc o3).heap[w2.heap.size + 1]? = ((w2.alloc o1).alloc o2).heap[w2.heap.size + 1]? := Below.heap_alloc _ _ _ (by rw [hz2]; omega)
  refine ⟨⟨h.below hl3, ⟨fun j _ => ?_, fun i j _ _ _ r hr => by simp [Value.ownBlock] at hr, fun i _ r hr => by simp [Value.ownBlock] at hr, below_then h.low hl3, tab_lt hT⟩, (hr1.of_block e1).of_block e2, hr2.of_block e3, hr3, fun i _ r hr => by simp [Value.ownBlock] at hr⟩, ⟨⟨fun hb => by have := h.ar.lt hb; omega, fun hb => by have := h.ar.lt hb; omega, fun hb => by have := h.ar.lt hb; omega⟩, ⟨by omega, by omega, by omega⟩, ⟨by omega, by omega, by omega⟩, ⟨by omega, by omega, by omega⟩, ⟨noT_new hT hlow, noT_new hT (by omega), noT_new hT (by omega)⟩⟩⟩
  exact World.ownsRow_nil _ _ _ _
section
variable {B : Ab} {W w w' : World} {s : Ar} {g ob pb qb i k : Nat} {ov : Nat → Value}
theorem Ini.step (h : Ini B W w s g ob pb qb ov i) (hv : InV B W g ob pb qb) (hi : i < 6) :
    Ini B W ((w.alloc (.cells #[.int .i64 (16 * (i : Int)), .int .i64 (16 * (i : Int) + 8)] 3 (0, 0))).setCell ⟨ob, i, none⟩ (.slice (some ⟨w.heap.size, 0, none⟩) 2 2)) s g ob pb qb (upV ov i (.slice (some ⟨w.heap.size, 0, none⟩) 2 2)) (i + 1) := by
  have hown := World.ownsRow_lit (base := W.heap.size) (e := 3) (size := 1) w #[.int .i64 (16 * (i : Int)), .int .i64 (16 * (i : Int) + 8)] 2 h.wk.low.size (by unfold maxLen; omega) rfl
  have hl : Below w.heap.size w (w.alloc (.cells #[.int .i64 (16 * (i : Int)), .int .i64 (16 * (i : Int) + 8)] 3 (0, 0))) := (Below.refl _ _).alloc (Nat.le_refl _) _
  generalize hW1 : w.alloc (.cells #[.int .i64 (16 * (i : Int)), .int .i64 (16 * (i : Int) + 8)] 3 (0, 0)) = w1 at *
  have hs : ∀ j, j ≠ ob → (w1.setCell ⟨ob, i, none⟩ (.slice (some ⟨w.heap.size, 0, none⟩) 2 2)).heap[j]? = w1.heap[j]? := fun j hj => Below.heap_setCell _ _ _ _ hj
  have hW := h.wk.below hl
  have hgl := h.wk.glt
  have hob := h.obr.lt
  have hpb := h.pbr.lt
  have hqb := h.qbr.lt
  have honb : ∀ j, j < 6 → ∀ r, (upV ov i (.slice (some ⟨w.heap.size, 0, none⟩) 2 2) j).ownBlock = some r → ¬ B.has r ∧ r ≠ g ∧ r ≠ ob ∧ r ≠ pb ∧ r ≠ qb := fun j hj r e => by
    by_cases e2 : j = i
    · subst e2
      rw [upV_same] at e
      have e3 : w.heap.size = r := Option.some.inj e
      exact ⟨fun hb => by have := h.wk.ar.lt hb; omega, by omega, by omega, by omega, by omega⟩
    · rw [upV_other _ _ e2] at e
      exact h.onb j hj r e
  have hput := (h.own_.below hl).put (k := i) (v := .slice (some ⟨w.heap.size, 0, none⟩) 2 2) (l := basesF [2 * i, 2 * i + 1]) (by
    have e : intsV (basesF [2 * i, 2 * i + 1]) = [.int .i64 (16 * (i : Int)), .int .i64 (16 * (i : Int) + 8)] := by
      simp [intsV, basesF]
      omega
    rw [e]
    exact hown) (fun j hj hne r hr e => by
      have e3 : w.heap.size = r := Option.some.inj hr
      have := ((h.own_.row j hj).lt r e).2
      omega) (fun r hr hb => by
      have e3 : w.heap.size = r := Option.some.inj hr
      have := h.wk.ar.lt hb
      omega)
  rw [upX_own, ← own0_succ] at hput
  refine ⟨⟨hW.ar.setOther hv.nb.1 hv.nt.1.1 hv.nt.1.2 i _, hW.low.setCell (p := ⟨ob, i, none⟩) hv.lo.1 _, hW.own, (hs g (Ne.symm hv.ng.1)).trans hW.bx, hW.gB, hW.gW⟩, hput.setOther (fun j hj e => (honb j hj ob e).2.2.1 rfl) hv.lo.1 i _, ((h.obr.of_block (hl.block _ hob)).set i _).congr fun j _ => ?_, (h.pbr.of_block (hl.block _ hpb)).of_block (hs _ (Ne.symm hv.ap.1)), (h.qbr.of_block (hl.block _ hqb)).of_block (hs _ (Ne.symm hv.ap.2.1)), honb⟩
  unfold upV
  split <;> rfl
/-- the last array is made -/
theorem Ini.flight (h : Ini B W w s g ob pb qb ov k) (hv : InV B W g ob pb qb) (hT : HTab W) :
    Xs 45 6 B W (w.alloc (.cells (Array.replicate 6 (.int .i64 0)) 45 (0, 0))) s g ob pb qb w.heap.size ov (own0 k) (fun _ => none) (fun _ => none) (fun _ => none) (fun _ => none) (fun _ => none) (fun _ => none) (fun _ => 0) ∧ XsV B W g ob pb qb w.heap.size := by
  have hr := row_new w (.int .i64 0) 6 45 _ rfl
  have hl : Below w.heap.size w (w.alloc (.cells (Array.replicate 6 (.int .i64 0)) 45 (0, 0))) := (Below.refl _ _).alloc (Nat.le_refl _) _
  have hgl := h.wk.glt
  have hob := h.obr.lt
  have hpb := h.pbr.lt
  have hqb := h.qbr.lt
  have hlo := h.wk.low.size
  refine ⟨⟨h.wk.below hl, h.own_.below hl, h.obr.of_block (hl.block _ hob), h.pbr.of_block (hl.block _ hpb), h.qbr.of_block (hl.block _ hqb), hr, fun j hj r e => ?_, fun _ _ _ => rfl, fun _ _ m hm => (by cases hm), fun _ _ _ => rfl, fun _ _ m hm => (by cases hm), fun _ _ x hx => (by cases hx), fun _ _ x hx => (by cases hx), fun _ _ x _ _ _ hx => (by cases hx), fun _ _ x _ _ _ hx => (by cases hx), fun _ _ x _ _ hx => (by cases hx)⟩, ⟨⟨hv.nb.1, hv.nb.2.1, hv.nb.2.2, fun hb => by have := h.wk.ar.lt hb; omega⟩, ⟨hv.ng.1, hv.ng.2.1, hv.ng.2.2, by omega⟩, ⟨hv.ap.1, hv.ap.2.1, by omega, hv.ap.2.2, by omega, by omega⟩, ⟨hv.lo.1, hv.lo.2.1, hv.lo.2.2, hlo⟩, ⟨hv.nt.1, hv.nt.2.1, hv.nt.2.2, noT_new hT hlo⟩⟩⟩
  obtain ⟨h1, h2, h3, h4, h5⟩ := h.onb j hj r e
  have := ((h.own_.row j hj).lt r e).2
  exact ⟨h1, h2, h3, h4, h5, by omega⟩
/-- behind the main loop: the array of what was seen takes the flight's place -/
theorem Xs.seen {FT : TypeId} {FN : Nat} {fb : Nat} {own : Nat → List Nat} {pu : Nat → Option Pu} {po : Nat → Option Po} {mp mq : Nat → Option Nat} {fl : Nat → Int} (h : Xs FT FN B W w s g ob pb qb fb ov own pu po mp mq mp mq fl) (hv : XsV B W g ob pb qb fb) (hT : HTab W) :
    Xs 48 32 B W (w.alloc (.cells (Array.replicate 32 (.int .i64 0)) 48 (0, 0))) s g ob pb qb w.heap.size ov own pu po mp mq mp mq (fun _ => 0) ∧ XsV B W g ob pb qb w.heap.size := by
  have hr := row_new w (.int .i64 0) 32 48 _ rfl
  have hl : Below w.heap.size w (w.alloc (.cells (Array.replicate 32 (.int .i64 0)) 48 (0, 0))) := (Below.refl _ _).alloc (Nat.le_refl _) _
  have h2 := h.below hv hl
  have hgl := h.wk.glt
  have hob := h.obr.lt
  have hpb := h.pbr.lt
  have hqb := h.qbr.lt
  have hlo := h.wk.low.size
  have hn : ∀ x, x < w.heap.size → notX B g ob pb qb fb x → notX B g ob pb qb w.heap.size x := fun x hx ⟨h1, h2, h3, h4, h5, _⟩ => ⟨h1, h2, h3, h4, h5, by omega⟩
  exact ⟨⟨h2.wk, h2.own_, h2.obr, h2.pbr, h2.qbr, hr, fun j hj r e => hn r ((h.own_.row j hj).lt r e).2 (h.onb j hj r e), h2.pN, h2.pS, h2.qN, h2.qS, fun j hj x e => ⟨(h.pL j hj x e).1, hn x (h.pLt hj e) (h.pL j hj x e).2.1, (h.pL j hj x e).2.2⟩, fun j hj x e => ⟨(h.qL j hj x e).1, hn x (h.qLt hj e) (h.qL j hj x e).2.1, (h.qL j hj x e).2.2⟩, h2.p2, h2.q2, h2.pq⟩, ⟨⟨hv.nb.1, hv.nb.2.1, hv.nb.2.2.1, fun hb => by have := h.wk.ar.lt hb; omega⟩, ⟨hv.ng.1, hv.ng.2.1, hv.ng.2.2.1, by omega⟩, ⟨hv.ap.1, hv.ap.2.1, by omega, hv.ap.2.2.2.1, by omega, by omega⟩, ⟨hv.lo.1, hv.lo.2.1, hv.lo.2.2.1, hlo⟩, ⟨hv.nt.1, hv.nt.2.1, hv.nt.2.2.1, noT_new hT hlo⟩⟩⟩
end
end Go.Proofs.Ytfljoedjnigfjaa
namespace Go.Proofs.Ytfljoedjnigfjaa
open Go.RowKit
open A9 (Ab ArAt ArMem FrA Ar rawA useA ptrA New9 new9 intsV SrcN own_kept own_base src_one isTab tab_lt own_cell own_form own_any row_new NAt)
open H8 (HTab below_then placeI placeI_bd place_any)

theorem mx_pl {g : Nat} {w : World} (h : plS g mxP w) : w.cell? ⟨g, 0, none⟩ = some (.int .i64 4) ∧ w.cell? ⟨g, 1, none⟩ = some (.int .i64 0) ∧ w.cell? ⟨g, 2, none⟩ = some (.int .i64 16) ∧ w.cell? ⟨g, 3, none⟩ = some (.int .i64 48) ∧ w.cell? ⟨g, 4, none⟩ = some (.int .i64 80) := h
/-- all that holds at a round's head -/
def XsR (B : Ab) (W : World) (g ob pb qb fb k T : Nat) (w : World) : Prop := ∃ s ov own pu po mp mq fl, Xs 45 6 B W w s g ob pb qb fb ov own pu po mp mq mp mq fl ∧ Mix k s own pu po T ∧ s.bad = false ∧ (∀ i, i < k → pu i = none ∨ po i = none) ∧ 0 ≤ s.uses ∧ s.uses ≤ T
/-- the cells that a push's making reads -/
def sevC (g ob a r n : Nat) (ua : Option Addr) (un uc d : Nat) (w : World) : Prop := w.cell? ⟨g, 0, none⟩ = some (.int .i64 4) ∧ w.cell? ⟨g, 1, none⟩ = some (.int .i64 0) ∧ w.cell? ⟨g, 2, none⟩ = some (.int .i64 16) ∧ w.cell? ⟨g, 3, none⟩ = some (.int .i64 48) ∧ w.cell? ⟨g, 4, none⟩ = some (.int .i64 80) ∧ w.cell? ⟨ob, a, none⟩ = some (.slice ua un uc) ∧ w.cell? ⟨r, n, none⟩ = some (.int .i64 (8 * (d : Int)))
theorem Xs.seven {FT : TypeId} {FN : Nat} {B : Ab} {W w : World} {s : Ar} {g ob pb qb fb : Nat} {ov : Nat → Value} {own : Nat → List Nat} {pu : Nat → Option Pu} {po : Nat → Option Po} {mp mq cp cq : Nat → Option Nat} {fl : Nat → Int} (h : Xs FT FN B W w s g ob pb qb fb ov own pu po mp mq cp cq fl) {a r n m c d : Nat} {ys : List Nat} (ha : a < 6) (hov : ov a = .slice (some ⟨r, 0, none⟩) m c) (hx : own a = ys ++ [d]) (hn : ys.length = n) (hm : m = n + 1) : sevC g ob a r n (some ⟨r, 0, none⟩) m c d w := by
  subst hm
  obtain ⟨c0, c1, c2, c3, c4⟩ := mx_pl h.wk.pl
  have ho := h.own_.row a ha
  simp only [show (basesF (own a)).length = n + 1 by rw [basesF_len, hx]; simp [hn]] at ho
  rw [hov] at ho
  exact ⟨c0, c1, c2, c3, c4, (h.obr.cell ha).trans (by rw [hov]), own_cell ho (by rw [hx]; simp [basesF, hn])⟩
/-- .. behind one actor's turn -/
def XsU (B : Ab) (W : World) (g ob pb qb fb k T : Nat) (u : Int) (w : World) : Prop := ∃ s ov own pu po mp mq fl, Xs 45 6 B W w s g ob pb qb fb ov own pu po mp mq mp mq fl ∧ Mix k s own pu po (T + 1) ∧ s.bad = false ∧ (∀ i, i < k → pu i = none ∨ po i = none) ∧ 0 ≤ s.uses ∧ s.uses ≤ T + 1 ∧ s.uses ≤ u + 1
/-- so often in the first a actors' rows -/
def cntO (own : Nat → List Nat) (x a : Nat) : Nat := sumN (fun i => (own i).count x) a
theorem cntO_up {own : Nat → List Nat} {x a w : Nat} (h : a ≤ w) (l : List Nat) : cntO (upO own w l) x a = cntO own x a := by
  have := (sumN_up (f := fun i => (own i).count x) (g := fun i => (upO own w l i).count x) (w := w) (fun i hi => by simp only [upO_other _ _ hi]) a).2 h
  exact this
theorem cntO_le {own : Nat → List Nat} {pu : Nat → Option Pu} {x a : Nat} : ∀ {k : Nat}, a ≤ k → cntO own x a ≤ sumN (fun i => (own i).count x + puC (pu i) x) k
  | 0, h => by
    have e : a = 0 := by omega
    subst e
    exact Nat.le_refl _
  | k + 1, h => by
    by_cases e : a = k + 1
    · subst e
      have := cntO_le (own := own) (pu := pu) (x := x) (Nat.le_refl k)
      simp only [cntO, sumN] at this ⊢
      omega
    · have := cntO_le (own := own) (pu := pu) (x := x) (show a ≤ k by omega)
      simp only [sumN]
      omega
theorem Mix.cnt_le {k : Nat} {s : Ar} {own : Nat → List Nat} {pu : Nat → Option Pu} {po : Nat → Option Po} {T x a : Nat} (h : Mix k s own pu po T) (ha : a ≤ k) : cntO own x a ≤ 1 := by
  obtain ⟨hd, lk, ls, hR, hX, htg⟩ := h.ex
  have h1 := hX.C x
  have h2 := cntO_le (own := own) (pu := pu) (x := x) ha
  split at h1 <;> omega
theorem cntO_none {own : Nat → List Nat} {pu : Nat → Option Pu} {x : Nat} : ∀ {k : Nat}, (∀ i, i < k → pu i = none) → sumN (fun i => (own i).count x + puC (pu i) x) k = cntO own x k
  | 0, _ => rfl
  | k + 1, h => by
    have := cntO_none (own := own) (pu := pu) (x := x) (k := k) fun i hi => h i (by omega)
    simp only [cntO, sumN] at this ⊢
    rw [this, h k (by omega)]
    rfl
/-- the end's loop: the first a actors are done and seen -/
def SeR (B : Ab) (W : World) (g ob pb qb sb k a : Nat) (w : World) : Prop := ∃ s ov own pu po mp mq sn, Xs 48 32 B W w s g ob pb qb sb ov own pu po mp mq mp mq sn ∧ Mix k s own pu po (400 + 10 * a) ∧ s.bad = false ∧ (∀ i, i < k → pu i = none ∨ po i = none) ∧ (∀ j, j < a → pu j = none ∧ po j = none) ∧ ∀ x, x < 32 → sn x = (cntO own x a : Nat)
/-- how many steps more an actor has -/
def rkA (s : Ar) (pu : Option Pu) (po : Option Po) : Nat := match pu, po with
  | some m, _ => rkP (s.raw 6) m
  | none, some m => rkQ (s.raw 6) m
  | none, none => 0
/-- .. one of them under way -/
def SeA (B : Ab) (W : World) (g ob pb qb sb k a j : Nat) (w : World) : Prop := ∃ s ov own pu po mp mq sn, Xs 48 32 B W w s g ob pb qb sb ov own pu po mp mq mp mq sn ∧ Mix k s own pu po (400 + 10 * a + j) ∧ s.bad = false ∧ (∀ i, i < k → pu i = none ∨ po i = none) ∧ (∀ j, j < a → pu j = none ∧ po j = none) ∧ (∀ x, x < 32 → sn x = (cntO own x a : Nat)) ∧ (rkA s (pu a) (po a) = 0 ∨ j + rkA s (pu a) (po a) ≤ 5) ∧ j ≤ 6
/-- .. ended, not yet seen -/
def SeB (B : Ab) (W : World) (g ob pb qb sb k a : Nat) (w : World) : Prop := ∃ s ov own pu po mp mq sn, Xs 48 32 B W w s g ob pb qb sb ov own pu po mp mq mp mq sn ∧ Mix k s own pu po (400 + 10 * a + 6) ∧ s.bad = false ∧ (∀ i, i < k → pu i = none ∨ po i = none) ∧ (∀ j, j < a + 1 → pu j = none ∧ po j = none) ∧ ∀ x, x < 32 → sn x = (cntO own x a : Nat)
theorem rkA_zero {s : Ar} {pu : Option Pu} {po : Option Po} (h : rkA s pu po = 0) : pu = none ∧ po = none := by
  cases pu with
  | some m => have := (rkP_bd (s.raw 6) m).1; simp only [rkA] at h; omega
  | none =>
    cases po with
    | some m => have := (rkQ_bd (s.raw 6) m).1; simp only [rkA] at h; omega
    | none => exact ⟨rfl, rfl⟩
theorem rkA_bd (s : Ar) (pu : Option Pu) (po : Option Po) : rkA s pu po ≤ 5 := by
  cases pu with
  | some m => exact (rkP_bd (s.raw 6) m).2
  | none =>
    cases po with
    | some m => exact (rkQ_bd (s.raw 6) m).2
    | none => exact Nat.zero_le _
set_option maxHeartbeats 8000000 in
set_option maxRecDepth 8000 in
theorem mixes_walk (a0 : Int) (ad : Option Addr) (len cap : Nat) (hl : len ≤ 9223372036854775807) (w : World) (hN : NAt w ad len) (hT : HTab w) : Calls Try.prog 4 #[.int .i64 a0, .slice ad len cap] w fun e w' => e = .returned (.bool true) ∧ Below w.heap.size w w' := by
  have Pv := fun z wx => place_any z 1048576 wx (by omega) (by omega)
  have P0 := fun wx => place_any a0 6 wx (by omega) (by omega)
  obtain ⟨y1, y2⟩ := placeI_bd a0 6 (by omega)
  obtain ⟨k, hk⟩ : ∃ k : Nat, 1 + placeI a0 6 = k := ⟨(1 + placeI a0 6).toNat, by omega⟩
  have hk1 : 1 ≤ k := by omega
  have hk6 : k ≤ 6 := by omega
  obtain ⟨p0, hp0⟩ : ∃ p, placeI a0 6 = p := ⟨_, rfl⟩
  rw [hp0] at P0 hk y1 y2
  clear hp0
  have kR := fun wx => Raw_at (a := 4) (n := 256) mxP 81 rfl rfl (by omega) (by omega) wx
  have kN := fun wx (hx : HTab wx) => A9.New_any 81 256 false wx hx
  have HM0 : Hid (∀ k, Mix k (new9 81 256 false) (own0 k) (fun _ => none) (fun _ => none) 0) := fun k => Mix.new
  have HB0 : Hid ((new9 81 256 false).bad = false ∧ (new9 81 256 false).uses = 0) := ⟨rfl, rfl⟩
  have ka := fun wx (hx : HTab wx) => awake_any wx hx
  have HT : Hid (HTab w) := hT
  generalize new9 81 256 false = s0 at *
  clear hT
  unfold Pl5.v mxP at kR
  go_enter Try.func4, Try.ntmps4
  go_wp2_with fail
  refine (kR _).mono ?_
  rintro e w1 ⟨rfl, hb1⟩
  go_wp2_with fail
  refine (kN _ (tab_new HT.out hb1)).mono ?_
  rintro e w2 ⟨B, rfl, hA2, hb2, hlB⟩
  have hW2 : Wk B w w2 s0 w1.heap.size mxP := Wk.begin hb1 hA2 hb2 hlB
  clear hA2 hb2 hlB hb1 kR kN
  generalize w1.heap.size = g at *
  have HW2 : Hid (Wk B w w2 s0 g mxP) := hW2
  clear hW2
  go_wp2_with fail
  refine (P0 _).mono ?_
  rintro e w2 ⟨rfl, rfl⟩
  have HI := Ini.init HW2.out HT.out
  have HI0 : Hid (Ini B w (((w2.alloc (.cells (Array.replicate 6 (.slice none 0 0)) 42 (0, 0))).alloc (.cells (Array.replicate 6 (.pointer none)) 43 (0, 0))).alloc (.cells (Array.replicate 6 (.pointer none)) 44 (0, 0))) s0 g w2.heap.size (w2.heap.size + 1) (w2.heap.size + 2) (fun _ => .slice none 0 0) 0 ∧ InV B w g w2.heap.size (w2.heap.size + 1) (w2.heap.size + 2)) := HI
  clear HI HW2 P0
  go_wp2_with fail
  obtain ⟨ob, hob⟩ : ∃ n, Hid (n = w2.heap.size) := ⟨_, rfl⟩
  rw [← (hob.out : ob = w2.heap.size)]
  have HI1 : Hid (Ini B w (((w2.alloc (.cells (Array.replicate 6 (.slice none 0 0)) 42 (0, 0))).alloc (.cells (Array.replicate 6 (.pointer none)) 43 (0, 0))).alloc (.cells (Array.replicate 6 (.pointer none)) 44 (0, 0))) s0 g ob (ob + 1) (ob + 2) (fun _ => .slice none 0 0) 0) := by have := HI0.out.1; rw [← (hob.out : ob = w2.heap.size)] at this; exact this
  have HV1 : Hid (InV B w g ob (ob + 1) (ob + 2)) := by have := HI0.out.2; rw [← (hob.out : ob = w2.heap.size)] at this; exact this
  clear HI0
  generalize ob + 2 = qb at *
  generalize ob + 1 = pb at *
  go_loopw [12] (fun iv wr => ∃ (i : Nat) (ov : Nat → Value), i ≤ k ∧ iv = .int .i64 i ∧ Ini B w wr s0 g ob pb qb ov i) (fun iv _ => k - (intOf iv).toNat)
  case atStart => exact ⟨0, _, by omega, rfl, HI1.out⟩
  case round =>
    obtain ⟨i, ov, hik, rfl, hI⟩ := hrel
    clear HI1 hob
    obtain ⟨wq, rfl⟩ : ∃ W, W = wr := ⟨wr, rfl⟩
    by_cases hlt : i < k
    · have hli : (i : Int) < (k : Int) := by omega
      have hi6 : (i : Int) < 6 := by omega
      have cl : wq.cell? ⟨ob, i, none⟩ = some (ov i) := hI.obr.cell (by omega)
      obtain ⟨oa, oc, ho⟩ := own_any (hI.own_.row i (by omega))
      rw [ho] at cl
      have fl : wq.frozen? ⟨ob, i, none⟩ = false := hI.obr.frozen _
      have hbl := hI.obr.lt
      have hne : ob ≠ wq.heap.size := by omega
      have HE : Hid (Ini B w ((wq.setCell ⟨ob, i, none⟩ (.slice (some ⟨wq.heap.size, 0, none⟩) 2 2)).alloc (.cells #[.int .i64 (16 * (i : Int)), .int .i64 (16 * (i : Int) + 8)] 3 (0, 0))) s0 g ob pb qb (upV ov i (.slice (some ⟨wq.heap.size, 0, none⟩) 2 2)) (i + 1)) := by
        have hst := hI.step HV1.out (by omega)
        rw [World.setCell_alloc_past _ ob i _ hbl] at hst
        exact hst
      clear hI ho
      go_wp2_with fail
      go_roundw
      case rel => exact ⟨i + 1, _, by omega, by go_num, HE.out⟩
      case measure => simp [intOf]; omega
    · have hik2 : i = k := by omega
      subst hik2
      have hli : ¬ (i : Int) < (i : Int) := by omega
      have hX := hI.flight HV1.out HT.out
      have HX : Hid (Xs 45 6 B w (wq.alloc (.cells (Array.replicate 6 (.int .i64 0)) 45 (0, 0))) s0 g ob pb qb wq.heap.size ov (own0 i) (fun _ => none) (fun _ => none) (fun _ => none) (fun _ => none) (fun _ => none) (fun _ => none) (fun _ => 0)) := hX.1
      have HV : Hid (XsV B w g ob pb qb wq.heap.size) := hX.2
      clear hX hI HV1
      have HR0 : Hid (XsR B w g ob pb qb wq.heap.size i 0 (wq.alloc (.cells (Array.replicate 6 (.int .i64 0)) 45 (0, 0)))) := ⟨s0, ov, _, _, _, _, _, _, HX.out, HM0.out i, HB0.out.1, fun _ _ => .inl rfl, by rw [HB0.out.2]; omega, by rw [HB0.out.2]; omega⟩
      clear HX HM0 HB0
      go_upto_block 2 with fail
      generalize wq.heap.size = fb at *
      go_cut [] (fun wx => XsR B w g ob pb qb fb i 400 wx)
      case first =>
        as_aux_lemma =>
          go_wp2_with fail
          go_loopw [14] (fun iv wr => ∃ T : Nat, T ≤ 400 ∧ T ≤ len ∧ iv = .int .i64 T ∧ XsR B w g ob pb qb fb i T wr) (fun iv _ => 400 - (intOf iv).toNat)
          case atStart => exact ⟨0, by omega, by omega, rfl, HR0.out⟩
          case round =>
            obtain ⟨T, hT4, hTl, rfl, s, ov, own, pu, po, mp, mq, fl, hX, hM, hbad, hex, hu0, huT⟩ := hrel
            clear HR0
            rename_i kk
            obtain ⟨wq, rfl⟩ : ∃ W, W = wr := ⟨wr, rfl⟩
            by_cases hlt : T < len ∧ T < 400
            · obtain ⟨hlt, hlt4⟩ := hlt
              obtain ⟨ab, ao, z, rfl, hc⟩ := hN.low hX.wk.low T hlt
              have HN : Hid (NAt w (some ⟨ab, ao, none⟩) len) := hN
              have hli : (T : Int) < (len : Int) := by omega
              have hli6 : (T : Int) < 400 := by omega
              obtain ⟨v1, v2⟩ := placeI_bd z 1048576 (by omega)
              have Pz := fun wx => Pv z wx
              generalize placeI z 1048576 = v at *
              have ku := A9.Uses_any hX.wk.ar
              have hk0 : ¬ (i : Int) = 0 := by omega
              have hk0b : ((i : Int) == 0) = false := by simp; omega
              obtain ⟨a, ha⟩ : ∃ a : Nat, v % (i : Int) = a := ⟨(v % (i : Int)).toNat, by have := Int.emod_nonneg v hk0; omega⟩
              have hai : a < i := by have := Int.emod_lt_of_pos v (show (0 : Int) < (i : Int) by omega); omega
              have ha6 : a < 6 := by omega
              clear hN
              have hw1 : wrap64 (s.uses + 1) = s.uses + 1 := by unfold wrap64; omega
              go_upto_block 4 with (first | (go_at_call 10; refine (Pz _).mono ?_; rintro e wq ⟨rfl, rfl⟩) | (go_at_call 18; refine ku.mono ?_; rintro e wq ⟨rfl, rfl⟩))
              have HU : Hid (0 ≤ s.uses ∧ s.uses ≤ T ∧ wrap64 (s.uses + 1) = s.uses + 1) := ⟨hu0, huT, hw1⟩
              clear ha ku Pz hc hk0 hw1 hu0 huT
              go_cut [] (fun wx => XsU B w g ob pb qb fb i T s.uses wx)
              case first =>
                as_aux_lemma =>
                  have hai2 : (a : Int) < 6 := by omega
                  have HX : Hid (Xs 45 6 B w wq s g ob pb qb fb ov own pu po mp mq mp mq fl) := hX
                  have HM : Hid (Mix i s own pu po T ∧ s.bad = false ∧ ∀ j, j < i → pu j = none ∨ po j = none) := ⟨hM, hbad, hex⟩
                  have cP : wq.cell? ⟨pb, a, none⟩ = some (opV mp a) := hX.pbr.cell ha6
                  have cQ : wq.cell? ⟨qb, a, none⟩ = some (opV mq a) := hX.qbr.cell ha6
                  clear hX hM hbad hex hk0b
                  cases epu : pu a with
                  | some m =>
                    obtain ⟨x, tx, hx, hPx, -⟩ := HX.out.pS a ha6 m epu
                    have epo : po a = none := by
                      rcases HM.out.2.2 a hai with h | h
                      · rw [epu] at h; cases h
                      · exact h
                    have ks := HX.out.pushStep HV.out HM.out.1 (by omega) hai ha6 hx epu
                    rw [show opV mp a = .pointer (some ⟨x, 0, none⟩) by unfold opV; rw [hx]; rfl] at cP
                    have HX2 : Hid (mp a = some x ∧ po a = none) := ⟨hx, epo⟩
                    clear hx hPx epo cQ epu
                    go_wp2_with fail
                    refine ks.mono ?_
                    rintro e w3 ⟨s3, done, rfl, us, bd, hf, ht⟩
                    have HS : Hid (s3.uses = wrap64 (s.uses + 1) ∧ s3.bad = s.bad) := ⟨us, bd⟩
                    clear us bd ks cP
                    cases done with
                    | false =>
                      obtain ⟨m', -, h1, h2⟩ := hf rfl
                      have HR : Hid (XsU B w g ob pb qb fb i T s.uses w3) := ⟨s3, ov, own, _, po, mp, mq, fl, h1, h2, HS.out.2.trans HM.out.2.1, fun j hj => by
                        by_cases e : j = a
                        · subst e; exact .inr HX2.out.2
                        · rw [upO_other _ _ e]; exact HM.out.2.2 j hj, by rw [HS.out.1, HU.out.2.2]; have := HU.out; omega, by rw [HS.out.1, HU.out.2.2]; have := HU.out; omega, by rw [HS.out.1, HU.out.2.2]; omega⟩
                      clear hf ht h1 h2
                      go_wp2_with fail
                      go_meet
                      exact HR.out
                    | true =>
                      obtain ⟨h1, h2⟩ := ht rfl
                      have c3 : w3.cell? ⟨pb, a, none⟩ = some (.pointer (some ⟨x, 0, none⟩)) := (h1.pbr.cell ha6).trans (by unfold opV; rw [HX2.out.1]; rfl)
                      have f3 : w3.frozen? ⟨pb, a, none⟩ = false := h1.pbr.frozen _
                      have HR : Hid (XsU B w g ob pb qb fb i T s.uses (w3.setCell ⟨pb, a, none⟩ (.pointer none))) := ⟨s3, ov, own, _, po, _, mq, fl, h1.setPc HV.out a none, h2, HS.out.2.trans HM.out.2.1, fun j hj => by
                        by_cases e : j = a
                        · subst e; exact .inr HX2.out.2
                        · rw [upO_other _ _ e]; exact HM.out.2.2 j hj, by rw [HS.out.1, HU.out.2.2]; have := HU.out; omega, by rw [HS.out.1, HU.out.2.2]; have := HU.out; omega, by rw [HS.out.1, HU.out.2.2]; omega⟩
                      clear hf ht h1 h2
                      go_wp2_with fail
                      go_meet
                      exact HR.out
                  | none =>
                    have hpn := HX.out.pN a ha6 epu
                    rw [show opV mp a = .pointer none by unfold opV; rw [hpn]; rfl] at cP
                    cases epo : po a with
                    | some m =>
                      obtain ⟨x, tx, hx, hPx, -⟩ := HX.out.qS a ha6 m epo
                      have ks := HX.out.popStep HV.out HM.out.1 (by omega) hai ha6 hx epo
                      rw [show opV mq a = .pointer (some ⟨x, 0, none⟩) by unfold opV; rw [hx]; rfl] at cQ
                      have HX2 : Hid (mq a = some x ∧ pu a = none) := ⟨hx, epu⟩
                      clear hx hPx epo epu hpn
                      go_wp2_with fail
                      refine ks.mono ?_
                      rintro e w3 ⟨s3, done, rfl, us, bd, hf, ht⟩
                      have HS : Hid (s3.uses = wrap64 (s.uses + 1) ∧ s3.bad = s.bad) := ⟨us, bd⟩
                      clear us bd ks cP cQ
                      cases done with
                      | false =>
                        obtain ⟨m', -, h1, h2⟩ := hf rfl
                        have HR : Hid (XsU B w g ob pb qb fb i T s.uses w3) := ⟨s3, ov, own, pu, _, mp, mq, fl, h1, h2, HS.out.2.trans HM.out.2.1, fun j hj => by
                          by_cases e : j = a
                          · subst e; exact .inl HX2.out.2
                          · rw [upO_other _ _ e]; exact HM.out.2.2 j hj, by rw [HS.out.1, HU.out.2.2]; have := HU.out; omega, by rw [HS.out.1, HU.out.2.2]; have := HU.out; omega, by rw [HS.out.1, HU.out.2.2]; omega⟩
                        clear hf ht h1 h2
                        go_wp2_with fail
                        go_meet
                        exact HR.out
                      | true =>
                        obtain ⟨t3, hP3, h1, hnx, hb⟩ := ht rfl
                        have c3 : w3.cell? ⟨qb, a, none⟩ = some (.pointer (some ⟨x, 0, none⟩)) := (h1.qbr.cell ha6).trans (by unfold opV; rw [HX2.out.1]; rfl)
                        have f3 : w3.frozen? ⟨qb, a, none⟩ = false := h1.qbr.frozen _
                        have kb := Base_any hP3
                        have HX3 : Hid (Xs 45 6 B w w3 s3 g ob pb qb fb ov own pu (upO po a none) mp (upO mq a none) mp mq fl) := h1
                        have HEX : Hid (∀ j, j < i → pu j = none ∨ upO po a none j = none) := fun j hj => by
                          by_cases e : j = a
                          · subst e; exact .inl HX2.out.2
                          · rw [upO_other _ _ e]; exact HM.out.2.2 j hj
                        clear hf ht h1 hP3
                        rcases hb with ⟨hbt, hM3⟩ | ⟨b, hb32, hbt, hM3⟩
                        · rw [hbt] at kb
                          have HR : Hid (XsU B w g ob pb qb fb i T s.uses (w3.setCell ⟨qb, a, none⟩ (.pointer none))) := ⟨s3, ov, own, pu, _, mp, _, fl, HX3.out.setQc HV.out a none, hM3, HS.out.2.trans HM.out.2.1, HEX.out, by rw [HS.out.1, HU.out.2.2]; have := HU.out; omega, by rw [HS.out.1, HU.out.2.2]; have := HU.out; omega, by rw [HS.out.1, HU.out.2.2]; omega⟩
                          clear hbt hM3
                          go_wp2_with fail
                          refine kb.mono ?_
                          rintro e w3 ⟨rfl, rfl⟩
                          go_wp2_with fail
                          go_meet
                          exact HR.out
                        · rw [hbt] at kb
                          have HM3 : Hid (Mix i s3 (upO own a (own a ++ [b])) pu (upO po a none) (T + 1)) := hM3
                          have hol : (own a).length ≤ 900 := by have := (HM.out.1.own_lt hk6 hai).1; omega
                          obtain ⟨oa, oc, ho⟩ := own_any (HX3.out.own_.row a ha6)
                          obtain ⟨on, hon⟩ : ∃ on, (basesF (own a)).length = on := ⟨_, rfl⟩
                          rw [hon] at ho
                          have HO : Hid (ov a = .slice oa on oc) := ho
                          have co : w3.cell? ⟨ob, a, none⟩ = some (.slice oa on oc) := (HX3.out.obr.cell ha6).trans (by rw [HO.out])
                          clear hbt hM3 ho hon
                          go_wp2_with fail
                          refine kb.mono ?_
                          rintro e w3 ⟨rfl, rfl⟩
                          go_wp2_with (refine list_appX rfl _ _ rfl (HX3.out.below HV.out ((Below.refl _ _).alloc (Nat.le_refl _) _)) HV.out ha6 HO.out rfl rfl (src_one _ _) hol ?_; intro va5 vn5 vc5 w5 hX5 hor5; have co5 : w5.cell? ⟨ob, a, none⟩ = some (.slice oa on oc) := (hor5.cell ha6).trans (by rw [HO.out]); have fo5 : w5.frozen? ⟨ob, a, none⟩ = false := hor5.frozen _; have HX5 : Hid (Xs 45 6 B w (w5.setCell ⟨ob, a, none⟩ (.slice va5 vn5 vc5)) s3 g ob pb qb fb (upV ov a (.slice va5 vn5 vc5)) (upO own a (own a ++ [b])) pu (upO po a none) mp (upO mq a none) mp mq fl) := hX5; have cq5 : (w5.setCell ⟨ob, a, none⟩ (.slice va5 vn5 vc5)).cell? ⟨qb, a, none⟩ = some (.pointer (some ⟨x, 0, none⟩)) := (hX5.qbr.cell ha6).trans (by unfold opV; rw [HX2.out.1]; rfl); have fq5 : (w5.setCell ⟨ob, a, none⟩ (.slice va5 vn5 vc5)).frozen? ⟨qb, a, none⟩ = false := hX5.qbr.frozen _; clear hX5 hor5)
                          go_meet
                          exact ⟨s3, _, _, pu, _, mp, _, fl, HX5.out.setQc HV.out a none, HM3.out, HS.out.2.trans HM.out.2.1, HEX.out, by rw [HS.out.1, HU.out.2.2]; have := HU.out; omega, by rw [HS.out.1, HU.out.2.2]; have := HU.out; omega, by rw [HS.out.1, HU.out.2.2]; omega⟩
                    | none =>
                      as_aux_lemma =>
                        have hqn := HX.out.qN a ha6 epo
                        rw [show opV mq a = .pointer none by unfold opV; rw [hqn]; rfl] at cQ
                        obtain ⟨oa, oc, ho⟩ := own_any (HX.out.own_.row a ha6)
                        obtain ⟨on, hon⟩ : ∃ on, (basesF (own a)).length = on := ⟨_, rfl⟩
                        rw [hon] at ho
                        have co : wq.cell? ⟨ob, a, none⟩ = some (.slice oa on oc) := (HX.out.obr.cell ha6).trans (by rw [ho])
                        have HO : Hid (ov a = .slice oa on oc ∧ (basesF (own a)).length = on ∧ pu a = none ∧ po a = none ∧ mp a = none ∧ mq a = none) := ⟨ho, hon, epu, epo, hpn, hqn⟩
                        have hki0 : ¬ (i : Int) = 0 := by omega
                        have hki0b : ((i : Int) == 0) = false := by simp; omega
                        have hhd : headF mxP 1 2 = 6 := headF_eq (K := 16) (p := mxP) ⟨rfl, rfl⟩ (by omega) (by omega) (by omega) (by omega)
                        clear ho hon epu epo hpn hqn
                        obtain ⟨u, hu⟩ : ∃ u, v / (i : Int) = u := ⟨_, rfl⟩
                        have hu0 : 0 ≤ u := by rw [← hu]; exact Int.ediv_nonneg v1 (by omega)
                        by_cases hpush : u % 2 = 0 ∧ 0 < on
                        · obtain ⟨hev, hon0⟩ := hpush
                          have hevb : (u % 2 == 0) = true := by simpa using hev
                          have hon0i : (0 : Int) < (on : Int) := by omega
                          rcases List.eq_nil_or_concat (own a) with hx | ⟨ys, d, hx⟩
                          · have := HO.out.2.1
                            rw [hx] at this
                            simp [basesF] at this
                            omega
                          rw [List.concat_eq_append] at hx
                          obtain ⟨n, hn⟩ : ∃ n, ys.length = n := ⟨_, rfl⟩
                          have hon1 : on = n + 1 := by rw [← HO.out.2.1, basesF_len, hx]; simp [hn]
                          have hrow := HX.out.own_.row a ha6
                          simp only [HO.out.2.1] at hrow
                          rw [HO.out.1] at hrow
                          obtain ⟨r, cc, er, hcp, hcm⟩ := own_form hrow hon0
                          cases er
                          unfold maxLen at hcm
                          have hd32 : d < 12 := by have := (HM.out.1.own_lt hk6 hai).2 d (by rw [hx]; simp); omega
                          have hn32 : n ≤ 32 := by have := (HM.out.1.own_lt hk6 hai).1; rw [hx] at this; simp [hn] at this; omega
                          have HD : Hid (own a = ys ++ [d] ∧ ys.length = n ∧ on = n + 1 ∧ ov a = .slice (some ⟨r, 0, none⟩) (n + 1) oc) := ⟨hx, hn, hon1, by rw [← hon1]; exact HO.out.1⟩
                          have S0 := HX.out.seven ha6 HO.out.1 hx hn hon1
                          have cf : wq.cell? ⟨fb, a, none⟩ = some (.int .i64 (fl a)) := HX.out.fbr.cell ha6
                          have ff : wq.frozen? ⟨fb, a, none⟩ = false := HX.out.fbr.frozen _
                          have nx : ∀ wx, Calls Try.prog 12 #[.agg #[.int .i64 4, .int .i64 0, .int .i64 16, .int .i64 48, .int .i64 80], .int .i64 1, .int .i64 2, .int .i64 (8 * (d : Int))] wx (NewPuPost wx mxP ((d : Int) + 1) 6) := fun wx => by
                            have h := NewPush_any mxP 1 2 (8 * (d : Int)) (by omega) (by omega) wx
                            rw [hhd, show 8 * (d : Int) / 8 + 1 = (d : Int) + 1 by omega] at h
                            exact h
                          have hn0 : (on : Int) - 1 = (n : Int) := by omega
                          have hn2 : (n : Int) < (on : Int) := by omega
                          have hn4 : (0 : Int) ≤ (n : Int) := by omega
                          have hn5 : (n : Int) ≤ (oc : Int) := by omega
                          have hni : (n : Int) ≤ 32 := by omega
                          have cr := S0.2.2.2.2.2.2
                          have HX1 : Hid (Xs 45 6 B w (wq.setCell ⟨fb, a, none⟩ (.int .i64 (8 * (d : Int)))) s g ob pb qb fb ov own pu po mp mq mp mq (upH fl a (8 * (d : Int)))) := HX.out.setFc HV.out a _
                          clear hx hn hrow S0 hhd hon0 hon1
                          go_upto_region 33 with fail
                          clear cr cf ff cP cQ co
                          generalize wq.setCell ⟨fb, a, none⟩ (.int .i64 (8 * (d : Int))) = wf at *
                          have S1 := HX1.out.seven ha6 HO.out.1 HD.out.1 HD.out.2.1 HD.out.2.2.1
                          have c1 : wf.cell? ⟨pb, a, none⟩ = some (.pointer none) := (HX1.out.pbr.cell ha6).trans (by unfold opV; rw [HO.out.2.2.2.2.1]; rfl)
                          go_region_held3 (fun w' => w'.cell? ⟨g, 0, none⟩ = some (.int .i64 4) ∧ w'.cell? ⟨g, 1, none⟩ = some (.int .i64 0) ∧ w'.cell? ⟨g, 2, none⟩ = some (.int .i64 16) ∧ w'.cell? ⟨g, 3, none⟩ = some (.int .i64 48) ∧ w'.cell? ⟨g, 4, none⟩ = some (.int .i64 80) ∧ w'.cell? ⟨ob, a, none⟩ = some (.slice (some ⟨r, 0, none⟩) on oc) ∧ w'.cell? ⟨r, n, none⟩ = some (.int .i64 (8 * (d : Int)))) (first | exact S1 | exact S4 | exact S5) (first
                            | (go_at_call 12; refine (nx _).mono ?_; rintro e w4 ⟨q, rfl, hq4, hb4, lq⟩; have hb4' : Below wf.heap.size wf w4 := (by first | exact hb4 | exact below_then (Below.refl _ _).drew hb4); have lq' : wf.heap.size ≤ q := lq; have hX4 := HX1.out.newP (i := a) HV.out HT.out ha6 lq' hb4' hq4; have S4 := hX4.seven ha6 HO.out.1 HD.out.1 HD.out.2.1 HD.out.2.2.1; have c4 : w4.cell? ⟨pb, a, none⟩ = some (.pointer none) := (hX4.pbr.cell ha6).trans (by unfold opV; rw [HO.out.2.2.2.2.1]; rfl); have f4 : w4.frozen? ⟨pb, a, none⟩ = false := hX4.pbr.frozen _; have hX5 := hX4.setPc HV.out a (some q); have S5 := hX5.seven ha6 HO.out.1 HD.out.1 HD.out.2.1 HD.out.2.2.1))
                          all_goals
                            have hX6 := hX5.shrink HV.out ha6 HD.out.2.2.2 HD.out.1 HD.out.2.1
                            have hM6 := HM.out.1.begin hai HD.out.1 HO.out.2.2.1 (show d < 32 by omega)
                            have HR : Hid (XsU B w g ob pb qb fb i T s.uses (((w4.setCell ⟨pb, a, none⟩ (.pointer (some ⟨q, 0, none⟩))).setCell ⟨ob, a, none⟩ (.slice (some ⟨r, 0, none⟩) n oc)))) := ⟨s, _, _, _, po, _, mq, _, hX6, hM6.wide (by omega), HM.out.2.1, fun j hj => by
                              by_cases e : j = a
                              · subst e; exact .inr HO.out.2.2.2.1
                              · rw [upO_other _ _ e]; exact HM.out.2.2 j hj, by have := HU.out; omega, by have := HU.out; omega, by omega⟩
                            have c6 : (w4.setCell ⟨pb, a, none⟩ (.pointer (some ⟨q, 0, none⟩))).cell? ⟨ob, a, none⟩ = some (.slice (some ⟨r, 0, none⟩) on oc) := S5.2.2.2.2.2.1
                            have f6 : (w4.setCell ⟨pb, a, none⟩ (.pointer (some ⟨q, 0, none⟩))).frozen? ⟨ob, a, none⟩ = false := hX5.obr.frozen _
                            clear hX6 hM6 hX5 S5 hX4 S4 c4 f4 hq4 hb4 hb4' lq lq' S1 HX1 c1
                            go_wp2_with fail
                            go_meet
                            exact HR.out
                        · go_upto_region 30 with fail
                          go_cut [120] (fun cv wx => cv = .bool false ∧ wx = wq)
                          case first =>
                            by_cases hev : u % 2 = 0
                            · have hevb : (u % 2 == 0) = true := by simpa using hev
                              have hon0 : on = 0 := by omega
                              subst hon0
                              go_wp2_with fail
                              go_meet
                              exact ⟨rfl, rfl⟩
                            · have hevb : (u % 2 == 0) = false := by simpa using hev
                              go_wp2_with fail
                              go_meet
                              exact ⟨rfl, rfl⟩
                          case rest =>
                            obtain ⟨rfl, rfl⟩ := hcut
                            obtain ⟨wq, rfl⟩ : ∃ W, W = wc := ⟨wc, rfl⟩
                            obtain ⟨c0, c1, c2, c3, c4⟩ := mx_pl HX.out.wk.pl
                            have ny : ∀ wx, Calls Try.prog 13 #[.agg #[.int .i64 4, .int .i64 0, .int .i64 16, .int .i64 48, .int .i64 80], .int .i64 1, .int .i64 2] wx (NewPoPost wx mxP 6) := fun wx => by
                              have h := NewPop_any mxP 1 2 wx
                              rw [hhd] at h
                              exact h
                            clear hpush hhd hu hu0 cP cQ co
                            go_wp2_with fail
                            refine (ny _).mono ?_
                            rintro e w4 ⟨q, rfl, hq4, hb4, lq⟩
                            have hX4 := HX.out.newQ (i := a) HV.out HT.out ha6 lq hb4 hq4
                            have cq4 : w4.cell? ⟨qb, a, none⟩ = some (.pointer none) := (hX4.qbr.cell ha6).trans (by unfold opV; rw [HO.out.2.2.2.2.2]; rfl)
                            have fq4 : w4.frozen? ⟨qb, a, none⟩ = false := hX4.qbr.frozen _
                            have hM4 : Mix i s own pu (upO po a (some ⟨0, 0, 0⟩)) T := HM.out.1.beginPop
                            have HR : Hid (XsU B w g ob pb qb fb i T s.uses (w4.setCell ⟨qb, a, none⟩ (.pointer (some ⟨q, 0, none⟩)))) := ⟨s, _, _, pu, _, _, _, _, hX4.setQc HV.out a (some q), hM4.wide (by omega), HM.out.2.1, fun j hj => by
                              by_cases e : j = a
                              · subst e; exact .inl HO.out.2.2.1
                              · rw [upO_other _ _ e]; exact HM.out.2.2 j hj, by have := HU.out; omega, by have := HU.out; omega, by omega⟩
                            clear hX4 hM4 hq4 hb4 lq c0 c1 c2 c3 c4 ny
                            go_wp2_with fail
                            go_meet
                            exact HR.out
              case rest =>
                as_aux_lemma =>
                  obtain ⟨s5, ov5, own5, pu5, po5, mp5, mq5, fl5, hX5, hM5, hbad5, hex5, hu5, hu6, hu7⟩ := hcut
                  clear hX hM hbad hex
                  obtain ⟨w5, rfl⟩ : ∃ W, W = wc := ⟨wc, rfl⟩
                  have ku := A9.Uses_any hX5.wk.ar
                  have hd7 : decide (s.uses + 1 < s5.uses) = false := by simp; omega
                  have hs0 := HU.out
                  have hw8 : wrap64 (s.uses + 1) = s.uses + 1 := hs0.2.2
                  have hi8 : IntKind.i64.wrap (s.uses + 1) = s.uses + 1 := by rw [IntKind.wrap_i64]; omega
                  have HR : Hid (XsR B w g ob pb qb fb i (T + 1) w5) := ⟨s5, ov5, own5, pu5, po5, mp5, mq5, fl5, hX5, hM5, hbad5, hex5, hu5, by omega⟩
                  clear hX5 hM5 hbad5 hex5 hs0 hu5 hu6
                  go_wp2_with fail
                  refine ku.mono ?_
                  rintro e w5 ⟨rfl, rfl⟩
                  go_wp2_with fail
                  go_roundw
                  case rel => exact ⟨T + 1, by omega, by omega, by go_num, HR.out⟩
                  case measure => simp [intOf]; omega
            · have HR : Hid (XsR B w g ob pb qb fb i 400 wq) := ⟨s, ov, own, pu, po, mp, mq, fl, hX, hM.wide hT4, hbad, hex, hu0, by omega⟩
              clear hX hM hbad hex hu0 huT
              by_cases h1 : T < len
              · have h1i : (T : Int) < (len : Int) := by omega
                have h2i : ¬ (T : Int) < 400 := by omega
                have h2d : decide ((T : Int) < 400) = false := by simpa using h2i
                go_wp2_with fail
                go_meet
                exact HR.out
              · have h1i : ¬ (T : Int) < (len : Int) := by omega
                have h1d : decide ((T : Int) < (len : Int)) = false := by simpa using h1i
                go_wp2_with fail
                go_meet
                exact HR.out
      case rest =>
        as_aux_lemma =>
          clear HR0
          obtain ⟨s, ov, own, pu, po, mp, mq, fl, hX, hM, hbad, hex, -, -⟩ := hcut
          obtain ⟨wq, rfl⟩ : ∃ W, W = wc := ⟨wc, rfl⟩
          have HS0 : Hid (Xs 48 32 B w (wq.alloc (.cells (Array.replicate 32 (.int .i64 0)) 48 (0, 0))) s g ob pb qb wq.heap.size ov own pu po mp mq mp mq (fun _ => 0) ∧ XsV B w g ob pb qb wq.heap.size) := hX.seen HV.out HT.out
          have HR1 : Hid (SeR B w g ob pb qb wq.heap.size i 0 (wq.alloc (.cells (Array.replicate 32 (.int .i64 0)) 48 (0, 0)))) := ⟨s, ov, own, pu, po, mp, mq, _, HS0.out.1, hM, hbad, hex, fun j hj => by omega, fun x _ => rfl⟩
          have HV2 : Hid (XsV B w g ob pb qb wq.heap.size) := HS0.out.2
          clear hX hM hbad hex HS0 HV
          go_upto_block 5 with fail
          generalize wq.heap.size = sb at *
          go_cut [] (fun wx => SeR B w g ob pb qb sb i i wx)
          case first =>
            as_aux_lemma =>
              go_wp2_with fail
              go_loopw [22] (fun iv wr => ∃ a : Nat, a ≤ i ∧ iv = .int .i64 a ∧ SeR B w g ob pb qb sb i a wr) (fun iv _ => i - (intOf iv).toNat)
              case atStart => exact ⟨0, by omega, rfl, HR1.out⟩
              case round =>
                obtain ⟨a, hai, rfl, hS⟩ := hrel
                clear HR1
                obtain ⟨wq, rfl⟩ : ∃ W, W = wr := ⟨wr, rfl⟩
                by_cases hlt : a < i
                · have hli : (a : Int) < (i : Int) := by omega
                  have ha6 : a < 6 := by omega
                  have hai6 : (a : Int) < 6 := by omega
                  have HA0 : Hid (SeA B w g ob pb qb sb i a 0 wq) := by
                    obtain ⟨s, ov, own, pu, po, mp, mq, sn, h1, h2, h3, h4, h5, h6⟩ := hS
                    exact ⟨s, ov, own, pu, po, mp, mq, sn, h1, h2, h3, h4, h5, h6, .inr (by have := rkA_bd s (pu a) (po a); omega), by omega⟩
                  clear hS
                  go_upto_block 7 with fail
                  go_cut [] (fun wx => SeB B w g ob pb qb sb i a wx)
                  case first =>
                    as_aux_lemma =>
                      go_wp2_with fail
                      go_loopw [23] (fun jv wr => ∃ j : Nat, jv = .int .i64 j ∧ SeA B w g ob pb qb sb i a j wr) (fun jv _ => 100 - (intOf jv).toNat)
                      case atStart => exact ⟨0, rfl, HA0.out⟩
                      case round =>
                        obtain ⟨j, rfl, s, ov, own, pu, po, mp, mq, sn, hX, hM, hbad, hex, hdn, hsn, hrk, hj6⟩ := hrel
                        clear HA0
                        obtain ⟨wq, rfl⟩ : ∃ W, W = wr := ⟨wr, rfl⟩
                        have hji : (j : Int) < 100 := by omega
                        have cP : wq.cell? ⟨pb, a, none⟩ = some (opV mp a) := hX.pbr.cell ha6
                        have cQ : wq.cell? ⟨qb, a, none⟩ = some (opV mq a) := hX.qbr.cell ha6
                        have HX : Hid (Xs 48 32 B w wq s g ob pb qb sb ov own pu po mp mq mp mq sn) := hX
                        have HM : Hid (Mix i s own pu po (400 + 10 * a + j) ∧ s.bad = false ∧ (∀ i_1, i_1 < i → pu i_1 = none ∨ po i_1 = none) ∧ (∀ j, j < a → pu j = none ∧ po j = none) ∧ (∀ x, x < 32 → sn x = (cntO own x a : Nat)) ∧ (rkA s (pu a) (po a) = 0 ∨ j + rkA s (pu a) (po a) ≤ 5) ∧ j ≤ 6) := ⟨hM, hbad, hex, hdn, hsn, hrk, hj6⟩
                        clear hX hM hbad hex hdn hsn hrk
                        cases epu : pu a with
                        | some m =>
                          obtain ⟨x, tx, hx, hPx, -⟩ := HX.out.pS a ha6 m epu
                          have epo : po a = none := by
                            rcases HM.out.2.2.1 a hlt with h | h
                            · rw [epu] at h; cases h
                            · exact h
                          have hqn := HX.out.qN a ha6 epo
                          have ks := HX.out.pushStep HV2.out HM.out.1 (by omega) hlt ha6 hx epu
                          rw [show opV mp a = .pointer (some ⟨x, 0, none⟩) by unfold opV; rw [hx]; rfl] at cP
                          have hr5 : j + rkP (s.raw 6) m ≤ 5 := by
                            have h := HM.out.2.2.2.2.2.1
                            rw [epu] at h
                            have := (rkP_bd (s.raw 6) m).1
                            rcases h with h | h
                            · simp only [rkA] at h; omega
                            · exact h
                          have HX2 : Hid (mp a = some x ∧ po a = none ∧ mq a = none ∧ j + rkP (s.raw 6) m ≤ 5) := ⟨hx, epo, hqn, hr5⟩
                          clear hx hPx epo epu hqn cQ hr5
                          go_wp2_with fail
                          refine ks.mono ?_
                          rintro e w3 ⟨s3, done, rfl, us, bd, hf, ht⟩
                          clear us ks cP
                          cases done with
                          | false =>
                            obtain ⟨m', hlt', h1, h2⟩ := hf rfl
                            have cQ3 : w3.cell? ⟨qb, a, none⟩ = some (.pointer none) := (h1.qbr.cell ha6).trans (by unfold opV; rw [HX2.out.2.2.1]; rfl)
                            have HR : Hid (SeA B w g ob pb qb sb i a (j + 1) w3) := ⟨s3, ov, own, _, po, mp, mq, sn, h1, h2.wide (by omega), bd.trans HM.out.2.1, fun l hl => by
                              by_cases e : l = a
                              · subst e; exact .inr HX2.out.2.1
                              · rw [upO_other _ _ e]; exact HM.out.2.2.1 l hl, fun l hl => by rw [upO_other _ _ (by omega)]; exact HM.out.2.2.2.1 l hl, HM.out.2.2.2.2.1, .inr (by rw [upO_same]; have := HX2.out.2.2.2; show j + 1 + rkP (s3.raw 6) m' ≤ 5; omega), by have := HX2.out.2.2.2; have := (rkP_bd (s.raw 6) m).1; omega⟩
                            clear hf ht h1 h2 hlt' bd
                            go_wp2_with fail
                            go_roundw
                            case rel => exact ⟨j + 1, by go_num, HR.out⟩
                            case measure => simp [intOf]; omega
                          | true =>
                            obtain ⟨h1, h2⟩ := ht rfl
                            have c3 : w3.cell? ⟨pb, a, none⟩ = some (.pointer (some ⟨x, 0, none⟩)) := (h1.pbr.cell ha6).trans (by unfold opV; rw [HX2.out.1]; rfl)
                            have f3 : w3.frozen? ⟨pb, a, none⟩ = false := h1.pbr.frozen _
                            have h4 := h1.setPc HV2.out a none
                            have cQ3 : (w3.setCell ⟨pb, a, none⟩ (.pointer none)).cell? ⟨qb, a, none⟩ = some (.pointer none) := (h4.qbr.cell ha6).trans (by unfold opV; rw [HX2.out.2.2.1]; rfl)
                            have HR : Hid (SeA B w g ob pb qb sb i a (j + 1) (w3.setCell ⟨pb, a, none⟩ (.pointer none))) := ⟨s3, ov, own, _, po, _, mq, sn, h4, h2.wide (by omega), bd.trans HM.out.2.1, fun l hl => by
                              by_cases e : l = a
                              · subst e; exact .inr HX2.out.2.1
                              · rw [upO_other _ _ e]; exact HM.out.2.2.1 l hl, fun l hl => by rw [upO_other _ _ (by omega)]; exact HM.out.2.2.2.1 l hl, HM.out.2.2.2.2.1, .inl (by rw [upO_same, HX2.out.2.1]; rfl), by have := HX2.out.2.2.2; have := (rkP_bd (s.raw 6) m).1; omega⟩
                            clear hf ht h1 h2 h4 bd
                            go_wp2_with fail
                            go_roundw
                            case rel => exact ⟨j + 1, by go_num, HR.out⟩
                            case measure => simp [intOf]; omega
                        | none =>
                          have hpn := HX.out.pN a ha6 epu
                          rw [show opV mp a = .pointer none by unfold opV; rw [hpn]; rfl] at cP
                          cases epo : po a with
                          | some m =>
                            obtain ⟨x, tx, hx, hPx, -⟩ := HX.out.qS a ha6 m epo
                            have ks := HX.out.popStep HV2.out HM.out.1 (by omega) hlt ha6 hx epo
                            rw [show opV mq a = .pointer (some ⟨x, 0, none⟩) by unfold opV; rw [hx]; rfl] at cQ
                            have hr5 : j + rkQ (s.raw 6) m ≤ 5 := by
                              have h := HM.out.2.2.2.2.2.1
                              rw [epu, epo] at h
                              have := (rkQ_bd (s.raw 6) m).1
                              rcases h with h | h
                              · simp only [rkA] at h; omega
                              · exact h
                            have HX2 : Hid (mq a = some x ∧ pu a = none ∧ j + rkQ (s.raw 6) m ≤ 5) := ⟨hx, epu, hr5⟩
                            clear hx hPx epo epu hpn hr5
                            go_wp2_with fail
                            refine ks.mono ?_
                            rintro e w3 ⟨s3, done, rfl, us, bd, hf, ht⟩
                            clear us ks cP cQ
                            cases done with
                            | false =>
                              obtain ⟨m', hlt', h1, h2⟩ := hf rfl
                              have HR : Hid (SeA B w g ob pb qb sb i a (j + 1) w3) := ⟨s3, ov, own, pu, _, mp, mq, sn, h1, h2.wide (by omega), bd.trans HM.out.2.1, fun l hl => by
                                by_cases e : l = a
                                · subst e; exact .inl HX2.out.2.1
                                · rw [upO_other _ _ e]; exact HM.out.2.2.1 l hl, fun l hl => by rw [upO_other _ _ (by omega)]; exact HM.out.2.2.2.1 l hl, HM.out.2.2.2.2.1, .inr (by rw [upO_same, HX2.out.2.1]; have := HX2.out.2.2; show j + 1 + rkQ (s3.raw 6) m' ≤ 5; omega), by have := HX2.out.2.2; have := (rkQ_bd (s.raw 6) m).1; omega⟩
                              clear hf ht h1 h2 hlt' bd
                              go_wp2_with fail
                              go_roundw
                              case rel => exact ⟨j + 1, by go_num, HR.out⟩
                              case measure => simp [intOf]; omega
                            | true =>
                              obtain ⟨t3, hP3, h1, hnx, hb⟩ := ht rfl
                              have c3 : w3.cell? ⟨qb, a, none⟩ = some (.pointer (some ⟨x, 0, none⟩)) := (h1.qbr.cell ha6).trans (by unfold opV; rw [HX2.out.1]; rfl)
                              have f3 : w3.frozen? ⟨qb, a, none⟩ = false := h1.qbr.frozen _
                              have kb := Base_any hP3
                              have HX3 : Hid (Xs 48 32 B w w3 s3 g ob pb qb sb ov own pu (upO po a none) mp (upO mq a none) mp mq sn ∧ s3.bad = s.bad) := ⟨h1, bd⟩
                              have HEX : Hid ((∀ l, l < i → pu l = none ∨ upO po a none l = none) ∧ (∀ l, l < a → pu l = none ∧ upO po a none l = none) ∧ rkA s3 (pu a) (upO po a none a) = 0 ∧ j + 1 ≤ 6) := ⟨fun l hl => by
                                by_cases e : l = a
                                · subst e; exact .inl HX2.out.2.1
                                · rw [upO_other _ _ e]; exact HM.out.2.2.1 l hl, fun l hl => by rw [upO_other _ _ (by omega)]; exact HM.out.2.2.2.1 l hl, by rw [upO_same, HX2.out.2.1]; rfl, by have := HX2.out.2.2; have := (rkQ_bd (s.raw 6) m).1; omega⟩
                              clear hf ht h1 hP3 bd
                              rcases hb with ⟨hbt, hM3⟩ | ⟨b, hb32, hbt, hM3⟩
                              · rw [hbt] at kb
                                have HR : Hid (SeA B w g ob pb qb sb i a (j + 1) (w3.setCell ⟨qb, a, none⟩ (.pointer none))) := ⟨s3, ov, own, pu, _, mp, _, sn, HX3.out.1.setQc HV2.out a none, hM3.wide (by omega), HX3.out.2.trans HM.out.2.1, HEX.out.1, HEX.out.2.1, HM.out.2.2.2.2.1, .inl HEX.out.2.2.1, HEX.out.2.2.2⟩
                                clear hbt hM3
                                go_wp2_with fail
                                refine kb.mono ?_
                                rintro e w3 ⟨rfl, rfl⟩
                                go_wp2_with fail
                                go_roundw
                                case rel => exact ⟨j + 1, by go_num, HR.out⟩
                                case measure => simp [intOf]; omega
                              · rw [hbt] at kb
                                have HM3 : Hid (Mix i s3 (upO own a (own a ++ [b])) pu (upO po a none) (400 + 10 * a + (j + 1))) := hM3.wide (by omega)
                                have hol : (own a).length ≤ 900 := by have := (HM.out.1.own_lt hk6 hlt).1; omega
                                obtain ⟨oa, oc, ho⟩ := own_any (HX3.out.1.own_.row a ha6)
                                obtain ⟨on, hon⟩ : ∃ on, (basesF (own a)).length = on := ⟨_, rfl⟩
                                rw [hon] at ho
                                have HO : Hid (ov a = .slice oa on oc) := ho
                                have co : w3.cell? ⟨ob, a, none⟩ = some (.slice oa on oc) := (HX3.out.1.obr.cell ha6).trans (by rw [HO.out])
                                clear hbt hM3 ho hon
                                go_wp2_with fail
                                refine kb.mono ?_
                                rintro e w3 ⟨rfl, rfl⟩
                                go_wp2_with (refine list_appX rfl _ _ rfl (HX3.out.1.below HV2.out ((Below.refl _ _).alloc (Nat.le_refl _) _)) HV2.out ha6 HO.out rfl rfl (src_one _ _) hol ?_; intro va5 vn5 vc5 w5 hX5 hor5; have co5 : w5.cell? ⟨ob, a, none⟩ = some (.slice oa on oc) := (hor5.cell ha6).trans (by rw [HO.out]); have fo5 : w5.frozen? ⟨ob, a, none⟩ = false := hor5.frozen _; have HX5 : Hid (Xs 48 32 B w (w5.setCell ⟨ob, a, none⟩ (.slice va5 vn5 vc5)) s3 g ob pb qb sb (upV ov a (.slice va5 vn5 vc5)) (upO own a (own a ++ [b])) pu (upO po a none) mp (upO mq a none) mp mq sn) := hX5; have cq5 : (w5.setCell ⟨ob, a, none⟩ (.slice va5 vn5 vc5)).cell? ⟨qb, a, none⟩ = some (.pointer (some ⟨x, 0, none⟩)) := (hX5.qbr.cell ha6).trans (by unfold opV; rw [HX2.out.1]; rfl); have fq5 : (w5.setCell ⟨ob, a, none⟩ (.slice va5 vn5 vc5)).frozen? ⟨qb, a, none⟩ = false := hX5.qbr.frozen _; clear hX5 hor5)
                                go_roundw
                                case rel => exact ⟨j + 1, by go_num, s3, _, _, pu, _, mp, _, sn, HX5.out.setQc HV2.out a none, HM3.out, HX3.out.2.trans HM.out.2.1, HEX.out.1, HEX.out.2.1, fun y hy => by rw [cntO_up (Nat.le_refl _)]; exact HM.out.2.2.2.2.1 y hy, .inl HEX.out.2.2.1, HEX.out.2.2.2⟩
                                case measure => simp [intOf]; omega
                          | none =>
                            as_aux_lemma =>
                              have hqn := HX.out.qN a ha6 epo
                              rw [show opV mq a = .pointer none by unfold opV; rw [hqn]; rfl] at cQ
                              have HR : Hid (SeB B w g ob pb qb sb i a wq) := ⟨s, ov, own, pu, po, mp, mq, sn, HX.out, HM.out.1.wide (by have := HM.out.2.2.2.2.2.2; omega), HM.out.2.1, HM.out.2.2.1, fun l hl => by
                                by_cases e : l = a
                                · subst e; exact ⟨epu, epo⟩
                                · exact HM.out.2.2.2.1 l (by omega), HM.out.2.2.2.2.1⟩
                              clear hpn hqn epu epo
                              go_wp2_with fail
                              go_meet
                              exact HR.out
                  case rest =>
                    as_aux_lemma =>
                      clear HA0
                      obtain ⟨s, ov, own, pu, po, mp, mq, sn, hX, hM, hbad, hex, hdn, hsn⟩ := hcut
                      obtain ⟨wq, rfl⟩ : ∃ W, W = wc := ⟨wc, rfl⟩
                      have hpa := hdn a (by omega)
                      have cP : wq.cell? ⟨pb, a, none⟩ = some (.pointer none) := (hX.pbr.cell ha6).trans (by unfold opV; rw [hX.pN a ha6 hpa.1]; rfl)
                      have cQ : wq.cell? ⟨qb, a, none⟩ = some (.pointer none) := (hX.qbr.cell ha6).trans (by unfold opV; rw [hX.qN a ha6 hpa.2]; rfl)
                      obtain ⟨n, hn⟩ : ∃ n, (own a).length = n := ⟨_, rfl⟩
                      have hown := hM.own_lt hk6 hlt
                      have hrow := hX.own_.row a ha6
                      simp only [basesF_len, hn] at hrow
                      obtain ⟨oa, oc, hov⟩ := own_any hrow
                      have co : wq.cell? ⟨ob, a, none⟩ = some (.slice oa n oc) := (hX.obr.cell ha6).trans (by rw [hov])
                      have HM : Hid (Mix i s own pu po (400 + 10 * (a + 1)) ∧ s.bad = false ∧ (∀ i_1, i_1 < i → pu i_1 = none ∨ po i_1 = none) ∧ (∀ j, j < a + 1 → pu j = none ∧ po j = none) ∧ (∀ x, x < 32 → sn x = (cntO own x a : Nat)) ∧ (own a).length = n ∧ (own a).length ≤ 32 ∧ (∀ b ∈ own a, b < 12) ∧ ov a = .slice oa n oc) := ⟨hM.wide (by omega), hbad, hex, hdn, hsn, hn, hown.1, fun b hb => by have := hown.2 b hb; omega, hov⟩
                      have HX : Hid (Xs 48 32 B w wq s g ob pb qb sb ov own pu po mp mq mp mq sn) := hX
                      clear hX hM hbad hex hdn hsn hpa hn hown hrow hov
                      go_upto_block 9 with fail
                      go_wp2_with fail
                      go_loopw [245] (fun jv wr => ∃ (j : Nat) (sn' : Nat → Int), j ≤ n ∧ jv = .int .i64 j ∧ Xs 48 32 B w wr s g ob pb qb sb ov own pu po mp mq mp mq sn' ∧ ∀ x, x < 32 → sn' x = (cntO own x a + ((own a).take j).count x : Nat)) (fun jv _ => n - (intOf jv).toNat)
                      case atStart => exact ⟨0, sn, by omega, rfl, HX.out, fun x hx => by rw [HM.out.2.2.2.2.1 x hx]; simp⟩
                      case round =>
                        obtain ⟨j, sn', hjn, rfl, hX, hsn⟩ := hrel
                        clear HX cP cQ co
                        obtain ⟨wq, rfl⟩ : ∃ W, W = wr := ⟨wr, rfl⟩
                        by_cases hj : j < n
                        · have hji : (j : Int) < (n : Int) := by omega
                          have hnl : (n : Int) ≤ 32 := by have := HM.out.2.2.2.2.2.2.1; have := HM.out.2.2.2.2.2.1; omega
                          have hrow := hX.own_.row a ha6
                          simp only [basesF_len, HM.out.2.2.2.2.2.1] at hrow
                          rw [HM.out.2.2.2.2.2.2.2.2] at hrow
                          obtain ⟨r, cc, er, hcp, hcm⟩ := own_form hrow (by omega)
                          cases er
                          have hjl : j < (own a).length := by have := HM.out.2.2.2.2.2.1; omega
                          have cy : wq.cell? ⟨r, j, none⟩ = some (.int .i64 (8 * ((own a)[j] : Int))) := own_cell hrow (by simp only [basesF, List.getElem?_map, List.getElem?_eq_getElem hjl, Option.map_some])
                          have hy12 := HM.out.2.2.2.2.2.2.2.1 _ (List.getElem_mem hjl)
                          have htk : (own a).take (j + 1) = (own a).take j ++ [(own a)[j]] := by rw [List.take_add_one, List.getElem?_eq_getElem hjl]; rfl
                          generalize (own a)[j] = y at *
                          obtain ⟨c, hc⟩ : ∃ c, cntO own y a + ((own a).take j).count y = c := ⟨_, rfl⟩
                          have hcs : wq.cell? ⟨sb, y, none⟩ = some (.int .i64 (c : Int)) := (hX.fbr.cell (by omega)).trans (by rw [hsn y (by omega), hc])
                          have fs : wq.frozen? ⟨sb, y, none⟩ = false := hX.fbr.frozen _
                          have hcb : c ≤ 100 := by
                            have h1 := HM.out.1.cnt_le (x := y) (a := a + 1) (by omega)
                            have h2 := (List.take_sublist j (own a)).count_le y
                            have h3 : cntO own y (a + 1) = cntO own y a + (own a).count y := rfl
                            omega
                          have P32 : ∀ wx, Calls Try.prog 10 #[.int .i64 (y : Int), .int .i64 32] wx fun e w' => e = .returned (.int .i64 (y : Int)) ∧ w' = wx := fun wx => by
                            have h := place_any (y : Int) 32 wx (by omega) (by omega)
                            rw [show placeI (y : Int) 32 = (y : Int) by unfold placeI; omega] at h
                            exact h
                          have hy0 : (0 : Int) ≤ (y : Int) := by omega
                          have hy1 : (y : Int) < 32 := by omega
                          have hci : (c : Int) ≤ 100 := by omega
                          have HR : Hid (Xs 48 32 B w (wq.setCell ⟨sb, y, none⟩ (.int .i64 ((c : Int) + 1))) s g ob pb qb sb ov own pu po mp mq mp mq (upH sn' y ((c : Int) + 1)) ∧ ∀ x, x < 32 → upH sn' y ((c : Int) + 1) x = (cntO own x a + ((own a).take (j + 1)).count x : Nat)) := ⟨hX.setFc HV2.out y _, fun x hx => by
                            rw [htk, List.count_append]
                            by_cases e : x = y
                            · subst e
                              rw [upH_same]
                              simp
                              omega
                            · rw [upH_other _ _ e, hsn x hx]
                              simp [Ne.symm e]⟩
                          clear hX hrow hc hsn htk hjl hcp hcm
                          go_wp2_with (go_at_call 10; refine (P32 _).mono ?_; rintro e wq ⟨rfl, rfl⟩)
                          go_roundw
                          case rel => exact ⟨j + 1, _, by omega, by go_num, HR.out⟩
                          case measure => simp [intOf]; omega
                        · have hji : ¬ (j : Int) < (n : Int) := by omega
                          have e : j = n := by omega
                          subst e
                          have HR : Hid (SeR B w g ob pb qb sb i (a + 1) wq) := ⟨s, ov, own, pu, po, mp, mq, sn', hX, HM.out.1, HM.out.2.1, HM.out.2.2.1, HM.out.2.2.2.1, fun x hx => by
                            rw [hsn x hx, List.take_of_length_le (by have := HM.out.2.2.2.2.2.1; omega)]
                            rfl⟩
                          clear hX hsn
                          go_wp2_with fail
                          go_roundw
                          case rel => exact ⟨a + 1, by omega, by go_num, HR.out⟩
                          case measure => simp [intOf]; omega
                · have hli : ¬ (a : Int) < (i : Int) := by omega
                  have e : a = i := by omega
                  subst e
                  have HE : Hid (SeR B w g ob pb qb sb a a wq) := hS
                  clear hS
                  go_wp2_with fail
                  go_meet
                  exact HE.out
          case rest =>
            as_aux_lemma =>
              obtain ⟨s, ov, own, pu, po, mp, mq, sn, hX, hM, hbad, hex, hdn, hsn⟩ := hcut
              clear HR1
              obtain ⟨wq, rfl⟩ : ∃ W, W = wc := ⟨wc, rfl⟩
              obtain ⟨hd, lk, ls, hR, hMx, -⟩ := hM.ex
              have hhd : headF mxP 1 2 = ((6 : Nat) : Int) := headF_eq (K := 16) (p := mxP) ⟨rfl, rfl⟩ (by omega) (by omega) (by omega) (by omega)
              have kl := List_any (K := 16) (M := 32) (k := 6) (a := 1) (c := 2) hX.wk.ar hR ⟨rfl, rfl⟩ (by omega) hhd hMx.L (by omega)
              obtain ⟨c0, c1, c2, c3, c4⟩ := mx_pl hX.wk.pl
              have hC : ∀ x, cntO own x i + ls.count x = if x < 2 * i then 1 else 0 := fun x => by
                have := hMx.C x
                rw [cntO_none fun j hj => (hdn j hj).1] at this
                exact this
              have HL : Hid (s.bad = false ∧ (∀ x, x < 32 → sn x = (cntO own x i : Nat)) ∧ (∀ x, cntO own x i + ls.count x = if x < 2 * i then 1 else 0) ∧ (∀ b ∈ ls, b < 32) ∧ ls.length ≤ 32) := ⟨hbad, hsn, hC, hMx.L.lt, nodup_le 32 ls hMx.L.nd hMx.L.lt⟩
              have HX : Hid (Xs 48 32 B w wq s g ob pb qb sb ov own pu po mp mq mp mq sn) := hX
              clear hX hM hbad hex hdn hsn hC hMx hR hhd
              go_wp2_with fail
              refine kl.mono ?_
              rintro e w6 ⟨mv, u6, rfl, hM6⟩
              have hX6 := HX.out.arena HV2.out hM6.ar hM6.fr
              have hm := hM6.row
              obtain ⟨n, hn⟩ : ∃ n, ls.length = n := ⟨_, rfl⟩
              rw [basesF_len, hn] at hm
              obtain ⟨ma, mc, rfl⟩ := own_any hm
              have HM : Hid (Xs 48 32 B w w6 (usedA s u6) g ob pb qb sb ov own pu po mp mq mp mq sn ∧ w6.ownsRow wq.heap.size 3 1 (.slice ma n mc) n (intsV (basesF ls)) ∧ ls.length = n ∧ sb < wq.heap.size) := ⟨hX6, hm, hn, HX.out.fbr.lt⟩
              clear kl hX6 hm hM6 hn HX c0 c1 c2 c3 c4
              go_upto_block 11 with fail
              go_cut [] (fun wx => ∃ sn', Xs 48 32 B w wx (usedA s u6) g ob pb qb sb ov own pu po mp mq mp mq sn' ∧ ∀ x, x < 32 → sn' x = (if x < 2 * i then 1 else 0 : Nat))
              case first =>
                as_aux_lemma =>
                  go_wp2_with fail
                  go_loopw [261] (fun jv wr => ∃ (j : Nat) (sn' : Nat → Int), j ≤ n ∧ jv = .int .i64 j ∧ Xs 48 32 B w wr (usedA s u6) g ob pb qb sb ov own pu po mp mq mp mq sn' ∧ wr.ownsRow wq.heap.size 3 1 (.slice ma n mc) n (intsV (basesF ls)) ∧ ∀ x, x < 32 → sn' x = (cntO own x i + (ls.take j).count x : Nat)) (fun jv _ => n - (intOf jv).toNat)
                  case atStart => exact ⟨0, sn, by omega, rfl, HM.out.1, HM.out.2.1, fun x hx => by rw [HL.out.2.1 x hx]; simp⟩
                  case round =>
                    obtain ⟨j, sn', hjn, rfl, hX, hm, hsn⟩ := hrel
                    obtain ⟨wj, rfl⟩ : ∃ W, W = wr := ⟨wr, rfl⟩
                    by_cases hj : j < n
                    · have hji : (j : Int) < (n : Int) := by omega
                      obtain ⟨r, cc, er, hcp, hcm⟩ := own_form hm (by omega)
                      cases er
                      have hjl : j < ls.length := by have := HM.out.2.2.1; omega
                      have cy : wj.cell? ⟨r, j, none⟩ = some (.int .i64 (8 * (ls[j] : Int))) := own_cell hm (by simp only [basesF, List.getElem?_map, List.getElem?_eq_getElem hjl, Option.map_some])
                      have hy32 := HL.out.2.2.2.1 _ (List.getElem_mem hjl)
                      have hnl : (n : Int) ≤ 32 := by have := HM.out.2.2.1; have := HL.out.2.2.2.2; omega
                      have htk : ls.take (j + 1) = ls.take j ++ [ls[j]] := by rw [List.take_add_one, List.getElem?_eq_getElem hjl]; rfl
                      generalize ls[j] = y at *
                      obtain ⟨c, hc⟩ : ∃ c, cntO own y i + (ls.take j).count y = c := ⟨_, rfl⟩
                      have hcs : wj.cell? ⟨sb, y, none⟩ = some (.int .i64 (c : Int)) := (hX.fbr.cell hy32).trans (by rw [hsn y hy32, hc])
                      have fs : wj.frozen? ⟨sb, y, none⟩ = false := hX.fbr.frozen _
                      have hcb : c ≤ 100 := by
                        have h1 := HL.out.2.2.1 y
                        have h2 := (List.take_sublist j ls).count_le y
                        split at h1 <;> omega
                      have P32 : ∀ wx, Calls Try.prog 10 #[.int .i64 (y : Int), .int .i64 32] wx fun e w' => e = .returned (.int .i64 (y : Int)) ∧ w' = wx := fun wx => by
                        have h := place_any (y : Int) 32 wx (by omega) (by omega)
                        rw [show placeI (y : Int) 32 = (y : Int) by unfold placeI; omega] at h
                        exact h
                      have hy0 : (0 : Int) ≤ (y : Int) := by omega
                      have hy1 : (y : Int) < 32 := by omega
                      have hci : (c : Int) ≤ 100 := by omega
                      have hrb := (hm.lt r rfl).1
                      have hsl := HM.out.2.2.2
                      have HR : Hid (Xs 48 32 B w (wj.setCell ⟨sb, y, none⟩ (.int .i64 ((c : Int) + 1))) (usedA s u6) g ob pb qb sb ov own pu po mp mq mp mq (upH sn' y ((c : Int) + 1)) ∧ (wj.setCell ⟨sb, y, none⟩ (.int .i64 ((c : Int) + 1))).ownsRow wq.heap.size 3 1 (.slice (some ⟨r, 0, none⟩) n mc) n (intsV (basesF ls)) ∧ ∀ x, x < 32 → upH sn' y ((c : Int) + 1) x = (cntO own x i + (ls.take (j + 1)).count x : Nat)) := ⟨hX.setFc HV2.out y _, own_kept hm fun r' hr' => Below.heap_setCell _ _ _ _ (by have e2 : r = r' := Option.some.inj hr'; show r' ≠ sb; omega), fun x hx => by
                        rw [htk, List.count_append]
                        by_cases e : x = y
                        · subst e
                          rw [upH_same]
                          simp
                          omega
                        · rw [upH_other _ _ e, hsn x hx]
                          simp [Ne.symm e]⟩
                      clear hX hm hc hsn htk hjl hcp hcm HM
                      go_wp2_with (go_at_call 10; refine (P32 _).mono ?_; rintro e wj ⟨rfl, rfl⟩)
                      go_roundw
                      case rel => exact ⟨j + 1, _, by omega, by go_num, HR.out⟩
                      case measure => simp [intOf]; omega
                    · have hji : ¬ (j : Int) < (n : Int) := by omega
                      have e : j = n := by omega
                      subst e
                      have HE : Hid (∃ sn', Xs 48 32 B w wj (usedA s u6) g ob pb qb sb ov own pu po mp mq mp mq sn' ∧ ∀ x, x < 32 → sn' x = (if x < 2 * i then 1 else 0 : Nat)) := ⟨sn', hX, fun x hx => by rw [hsn x hx, List.take_of_length_le (by have := HM.out.2.2.1; omega), HL.out.2.2.1 x]⟩
                      clear hX hm hsn HM
                      go_wp2_with fail
                      go_meet
                      exact HE.out
              case rest =>
                as_aux_lemma =>
                  obtain ⟨sn', hX, hsn⟩ := hcut
                  clear HM
                  obtain ⟨wj, rfl⟩ : ∃ W, W = wc := ⟨wc, rfl⟩
                  have HX : Hid (Xs 48 32 B w wj (usedA s u6) g ob pb qb sb ov own pu po mp mq mp mq sn') := hX
                  have kf := A9.Fault_any hX.wk.ar
                  rw [show (usedA s u6).bad = false from HL.out.1] at kf
                  clear hX
                  have hi2 : 0 ≤ 2 * (i : Int) ∧ 2 * (i : Int) ≤ 12 := by omega
                  go_wp2_with fail
                  go_loopw [30] (fun xv wr => ∃ x : Nat, x ≤ 32 ∧ xv = .int .i64 x ∧ wr = wj) (fun xv _ => 32 - (intOf xv).toNat)
                  case atStart => exact ⟨0, by omega, rfl, rfl⟩
                  case round =>
                    obtain ⟨x, hx, rfl, rfl⟩ := hrel
                    by_cases hx32 : x < 32
                    · have hxi : (x : Int) < 32 := by omega
                      have cs : wr.cell? ⟨sb, x, none⟩ = some (.int .i64 (sn' x)) := HX.out.fbr.cell hx32
                      rw [hsn x hx32] at cs
                      clear kf
                      by_cases h2 : x < 2 * i
                      · rw [if_pos h2] at cs
                        have h2i : (x : Int) < 2 * (i : Int) := by omega
                        have h3i : ¬ 2 * (i : Int) ≤ (x : Int) := by omega
                        go_wp2_with fail
                        go_roundw
                        case rel => exact ⟨x + 1, by omega, by go_num, trivial⟩
                        case measure => simp [intOf]; omega
                      · rw [if_neg h2] at cs
                        have h2i : ¬ (x : Int) < 2 * (i : Int) := by omega
                        have h2d : decide ((x : Int) < 2 * (i : Int)) = false := by simpa using h2i
                        go_wp2_with fail
                        go_roundw
                        case rel => exact ⟨x + 1, by omega, by go_num, trivial⟩
                        case measure => simp [intOf]; omega
                    · have hxi : ¬ (x : Int) < 32 := by omega
                      have hk64 : (i : Int) ≤ 64 := by omega
                      have HE : Hid (Below w.heap.size w wr ∧ HTab wr) := ⟨HX.out.wk.low, HT.out.below HX.out.wk.low⟩
                      clear HX hsn
                      go_wp2_with fail
                      refine kf.mono ?_
                      rintro e wr ⟨rfl, rfl⟩
                      go_wp2_with fail
                      refine (ka _ HE.out.2).mono ?_
                      rintro e w9 ⟨rfl, hb9⟩
                      go_wp2_with fail
                      go_ret
                      exact ⟨rfl, below_then HE.out.1 hb9⟩
end Go.Proofs.Ytfljoedjnigfjaa
