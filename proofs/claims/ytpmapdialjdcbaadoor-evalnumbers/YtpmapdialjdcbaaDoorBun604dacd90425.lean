/-
  Helpers: C2Copy.
-/
import Derived.Test.YtpmapdialjdcbaaDoorBun53d5438622c1
import Derived.Test.YtpmapdialjdcbaaDoorBun500076cf42fb
import Derived.Deep.Upon
import Derived.Deep.AppendLies
import Derived.Deep.RegionLaw
namespace Go.Proofs.YtpmapdialjdcbaaDoor.C2
open Go.RowKit

/-- a program under way, in a box P; R: the result's block -/
structure PW (w wr : World) (R P : Nat) (fv : Value) (futs depth fuel : Int) (vals : List Value) (fs : List (List In)) : Prop where
  far : w.heap.size ≤ R
  rp : R < P
  res : wr.heap[R]? = some (.cells #[.slice none 0 0, .int .i64 0, .int .i64 0, .int .i64 0] 24 (0, 0))
  box : wr.heap[P]? = some (.cells #[fv, .int .i64 futs, .int .i64 depth, .int .i64 fuel] 24 (0, 0))
  row : wr.ownsRow (P + 1) 55 1 fv vals.length vals
  len : vals.length = fs.length
  fns : ∀ j (h : j < vals.length) (h2 : j < fs.length), wr.ownsRow (P + 1) 54 4 vals[j] fs[j].length (cellsI fs[j])
  below : Below w.heap.size w wr
theorem PW.kept {w ws wr : World} {R P : Nat} {fv : Value} {futs depth fuel : Int} {vals : List Value} {fs : List (List In)} (h : PW w ws R P fv futs depth fuel vals fs) (hb : Below ws.heap.size ws wr) : PW w wr R P fv futs depth fuel vals fs := by
  refine ⟨h.far, h.rp, (hb.block _ (lt_of_block h.res)).trans h.res, (hb.block _ (lt_of_block h.box)).trans h.box, owns_same h.row fun g hg => ?_, h.len, fun j h1 h2 => owns_same (h.fns j h1 h2) fun g hg => ?_, below_then h.below hb⟩
  · exact hb.block g (h.row.lt g hg).2
  · exact hb.block g ((h.fns j h1 h2).lt g hg).2
theorem PW.slF {w wr : World} {R P : Nat} {fv : Value} {futs depth fuel : Int} {vals : List Value} {fs : List (List In)} (h : PW w wr R P fv futs depth fuel vals fs) {w' : World} (hb : ∀ b, P < b → b < wr.heap.size → w'.heap[b]? = wr.heap[b]?) : SlF w' fv fs := by
  have hr : w'.ownsRow (P + 1) 55 1 fv vals.length vals := owns_same h.row fun g hg => by
    have := h.row.lt g hg
    exact hb g (by omega) this.2
  rcases hr.2 with ⟨rfl, h0⟩ | ⟨g, cap, cur, rfl, h1, h2, h3, h4, h5, h6⟩
  · obtain rfl : fs = [] := List.eq_nil_of_length_eq_zero (by rw [← h.len]; exact h0)
    exact ⟨none, 0, rfl, fun k hk => by simp at hk⟩
  · refine ⟨some ⟨g, 0, none⟩, cap, by rw [h.len], fun k hk => ?_⟩
    have hk' : k < vals.length := by rw [h.len]; exact hk
    refine ⟨g, 0, vals[k], rfl, ?_, ?_⟩
    · rw [Nat.zero_add, hr.cellAt k (by omega), List.getElem?_eq_getElem hk']
    · refine own_slI (base := P + 1) (owns_same (h.fns k hk' hk) fun b hb' => ?_)
      have := (h.fns k hk' hk).lt b hb'
      exact hb b (by omega) this.2
theorem PW.push {w ws w2 w3 : World} {R P : Nat} {fv fv' v : Value} {futs depth fuel : Int} {vals : List Value} {fs : List (List In)} {xs : List In} (h : PW w ws R P fv futs depth fuel vals fs)
    (hb : Below ws.heap.size ws w2) {B : Nat} (hB : P < B) (hv : w2.ownsRow B 54 4 v xs.length (cellsI xs))
    (hg3 : w2.grownBy w3 fv.ownBlock) (hr3 : w3.ownsRow (P + 1) 55 1 fv' (vals.length + 1) (vals ++ [v])) : PW w (w3.setCell ⟨P, 0, none⟩ fv') R P fv' futs depth fuel (vals ++ [v]) (fs ++ [xs]) := by
  have h2 := h.kept hb
  have hf := h.far
  have hrp := h.rp
  have hz : P < ws.heap.size := lt_of_block h.box
  have hb3 : ∀ b, b < w2.heap.size → fv.ownBlock ≠ some b → w3.heap[b]? = w2.heap[b]? := fun b h1 h2 => hg3.block b h1 fun e => h2 e.symm
  have hset : ∀ b, b ≠ P → (w3.setCell ⟨P, 0, none⟩ fv').heap[b]? = w3.heap[b]? := fun b hb => Below.heap_setCell _ _ _ _ hb
  have hlow : ∀ b, b ≤ P → fv.ownBlock ≠ some b := fun b hb e => by have := h2.row.lt b e; omega
  have hz2 : P < w2.heap.size := Nat.lt_of_lt_of_le hz hb.size
  have hbel : Below w.heap.size w2 (w3.setCell ⟨P, 0, none⟩ fv') := ⟨hg3.os, hg3.tape, hg3.output, by have := hg3.size; simp [World.setCell]; omega, fun k hk => (hset k (by omega)).trans (hb3 k (by omega) (hlow k (by omega)))⟩
  refine ⟨h.far, h.rp, ?_, ?_, ?_, by simp [h.len], fun j h1 h2' => ?_, h2.below.trans hbel⟩
  · rw [hset _ (by omega), hb3 _ (lt_of_block h2.res) (hlow _ (by omega))]
    exact h2.res
  · have e := (hb3 _ hz2 (hlow _ (Nat.le_refl _))).trans h2.box
    rw [heap_setCell_same _ _ _ _ _ _ e]
    rfl
  · have := owns_same (w' := w3.setCell ⟨P, 0, none⟩ fv') hr3 fun g hg => hset g (by have := hr3.lt g hg; omega)
    simpa using this
  · by_cases hj : j < vals.length
    · have e1 : (vals ++ [v])[j] = vals[j] := List.getElem_append_left hj
      have hj2 : j < fs.length := by rw [← h.len]; exact hj
      have e2 : (fs ++ [xs])[j] = fs[j] := List.getElem_append_left hj2
      rw [e1, e2]
      have ho := h2.fns j hj hj2
      refine owns_same ho fun g hg => ?_
      have := ho.lt g hg
      rw [hset g (by omega)]
      exact hb3 g this.2 (own_ne ho h2.row (by decide) g hg)
    · have e : j = vals.length := by simp at h1; omega
      subst e
      have e2 : (fs ++ [xs])[vals.length]'h2' = xs := by simp [h.len]
      rw [e2]
      have e1 : (vals ++ [v])[vals.length]'h1 = v := by simp
      rw [e1]
      have ho := owns_mono hv (base' := P + 1) (by omega)
      refine owns_same ho fun g hg => ?_
      have := ho.lt g hg
      rw [hset g (by omega)]
      exact hb3 g this.2 (own_ne ho h2.row (by decide) g hg)
theorem slI_cells {w : World} {xs : List In} {g f : Nat} (h : ∀ k (hk : k < xs.length), InsAt w g (f + k * 4) xs[k]) : ∀ j u, (cellsI xs)[j]? = some u → w.cell? ((⟨g, f, none⟩ : Addr).add j) = some u := by
  intro j u hu
  have hj : j < (cellsI xs).length := (List.getElem?_eq_some_iff.1 hu).1
  rw [cellsI_length] at hj
  have hk : j / 4 < xs.length := by omega
  have e : j = j / 4 * 4 + j % 4 := by omega
  have hr : j % 4 < 4 := by omega
  rw [e, cellsI_at hk (j % 4) hr] at hu
  have hA := h (j / 4) hk
  have ea : (⟨g, f, none⟩ : Addr).add j = ⟨g, f + j / 4 * 4 + j % 4, none⟩ := by
    rw [Go.WideShapes.add_plain]
    congr 1
    omega
  rw [ea, ← hu]
  rcases (by omega : j % 4 = 0 ∨ j % 4 = 1 ∨ j % 4 = 2 ∨ j % 4 = 3) with e | e | e | e <;> rw [e]
  · simpa [insC] using hA.c0
  · simpa [insC] using hA.c1
  · simpa [insC] using hA.c2
  · simpa [insC] using hA.c3
theorem cellsI_one (xs : List In) : ∀ u ∈ cellsI xs, u.oneCell' = true := by
  intro u hu
  simp only [cellsI, List.mem_flatten, List.mem_map] at hu
  obtain ⟨l, ⟨x, -, rfl⟩, hu⟩ := hu
  exact insC_one x u hu
/-- append(nil, f...) -/
theorem copy_run (ty : TypeId) (w : World) (u : Value) (xs : List In) (hI : SlI w u xs) (hn : xs.length ≤ 1000) :
    ∃ va vc w', (Builtin.append_ #[55, 55] ty #[.slice none 0 0, u]).run Tryd.prog w = .ok (.slice va xs.length vc) w' ∧ w'.ownsRow w.heap.size 54 4 (.slice va xs.length vc) xs.length (cellsI xs) ∧ Below w.heap.size w w' := by
  obtain ⟨i0, hi, hz0, hz1', hz2⟩ := info_parts infoIns
  by_cases h0 : xs = []
  · subst h0
    obtain ⟨ad, cap, rfl, -⟩ := hI
    refine ⟨none, 0, w, ?_, World.ownsRow_nil _ _ _ _, Below.refl _ _⟩
    refine run_append_nothing (P := Tryd.prog) w 55 55 ty 54 i0 Tryd.underlying55 hi none 0 0 (Nat.le_refl _) _ ?_
    cases ad with
    | none => exact Src.ofNil _ Tryd.underlying55 _
    | some a => exact Src.ofSlice _ Tryd.underlying55 a 0 cap [] (by simp) (by simp) (by simp)
  · obtain ⟨ad, cap, rfl, hx⟩ := hI
    have hp : 0 < xs.length := List.length_pos_iff.2 h0
    obtain ⟨g, f, rfl, -⟩ := hx 0 hp
    have hx' : ∀ k (hk : k < xs.length), InsAt w g (f + k * 4) xs[k] := fun k hk => by
      obtain ⟨g', f', e, hA⟩ := hx k hk
      simp at e
      obtain ⟨rfl, rfl⟩ := e
      exact hA
    obtain ⟨v', w', hr, ho, hg, -, -⟩ := run_append_own_at (P := Tryd.prog) w w.heap.size 55 ty 54 i0 (.agg #[.int .i64 0, .int .i64 0, .int .i64 0, .int .i64 0]) 4 32 Tryd.underlying55 hi hz0 hz1' hz2 rfl (by decide) (.slice none 0 0) 0 [] (World.ownsRow_nil _ _ _ _) ⟨g, f, none⟩ xs.length cap (cellsI xs) (cellsI_length xs) (slI_cells hx') (cellsI_one xs) (by unfold maxLen; omega) (by omega) (Nat.le_refl _)
    rw [Nat.zero_add, List.nil_append] at ho
    obtain ⟨gg, cc, rfl, -, -⟩ := ho.form hp
    exact ⟨_, _, w', hr, ho, ⟨hg.os, hg.tape, hg.output, hg.size, fun k hk => hg.block k hk (by simp [Value.ownBlock])⟩⟩
theorem step_copy {ops : Array Oper} {o : Oper} {a : Act} {K : Act → World → Prop} {Q : Exit → Act → World → Prop} {E : Prop} (w : World) (hgd : o.guard = none) (s x : Operand)
    (ho : o.op = .call { callee := .builtin .append, args := #[s, x], argTypes := #[55, 55] }) (u : Value) (xs : List In) (hs : a.eval s = .slice none 0 0) (hx : a.eval x = u) (hI : SlI w u xs) (hn : xs.length ≤ 1000)
    (h : ∀ va vc w', w'.ownsRow w.heap.size 54 4 (.slice va xs.length vc) xs.length (cellsI xs) → Below w.heap.size w w' → K (a.put o.dst (.slice va xs.length vc)) w') :
    if Region.wanted o (yielded ops a.tmps) = true then Oper.wp Tryd.prog o a w K Q else E := by
  have hw : Region.wanted o (yielded ops a.tmps) = true := by simp [Region.wanted, hgd]
  rw [if_pos hw]
  obtain ⟨va, vc, w', hr, h2, h3⟩ := copy_run o.type w u xs hI hn
  unfold Oper.wp execOp
  simp only [ho, resolve, invoke, builtin, Sem.run_bind, Sem.run_pure, Result.andThen_ok, List.map_toArray, List.map_cons, List.map_nil, hs, hx, hr]
  exact h va vc w' h2 h3
end Go.Proofs.YtpmapdialjdcbaaDoor.C2
