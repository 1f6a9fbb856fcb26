/-
  Helpers: A9AaR, F0Ow.
-/
import Derived.Test.YtopnkfbcphbbiaaDoorBun7f170c045c6e
import Derived.Maps.AppendAt
import Derived.Deep.AppendLies
namespace Go.Proofs.YtopnkfbcphbbiaaDoor.A9
open Go.RowKit
open H8 (HTab below_then)

def intsV (xs : List Int) : List Value := xs.map (Value.int .i64)
structure Rw2 (B : Ab) (W w : World) (va vb : Value) (xa xb : List Int) : Prop where
  oa : w.ownsRow W.heap.size 3 1 va xa.length (intsV xa)
  ob : w.ownsRow W.heap.size 3 1 vb xb.length (intsV xb)
  ap : ∀ g, va.ownBlock = some g → vb.ownBlock ≠ some g
  na : ∀ g, va.ownBlock = some g → ¬ B.has g
  nb : ∀ g, vb.ownBlock = some g → ¬ B.has g
  low : Below W.heap.size W w
  tb : ∀ k, isTab k → k < W.heap.size
/-- ints that lie in a row -/
structure SrcN (w : World) (ad : Option Addr) (len : Nat) (xs : List Int) : Prop where
  len_ : xs.length = len
  at_ : ∃ a, ad = some a ∧ ∀ j u, (intsV xs)[j]? = some u → w.cell? (a.add j) = some u
section
variable {B : Ab} {W w w' : World} {s : Ar} {va vb : Value} {xa xb : List Int}
theorem Rw2.swap (h : Rw2 B W w va vb xa xb) : Rw2 B W w vb va xb xa := ⟨h.ob, h.oa, fun g h1 h2 => h.ap g h2 h1, h.nb, h.na, h.low, h.tb⟩
theorem Rw2.nil (B : Ab) (w : World) (v : World) (h : Below w.heap.size w v) (ht : HTab w) : Rw2 B w v (.slice none 0 0) (.slice none 0 0) [] [] :=
  ⟨World.ownsRow_nil _ _ _ _, World.ownsRow_nil _ _ _ _, fun g h => by simp [Value.ownBlock] at h, fun g h => by simp [Value.ownBlock] at h, fun g h => by simp [Value.ownBlock] at h, h, tab_lt ht⟩
theorem own_kept {w w' : World} {base : Nat} {e : TypeId} {size : Nat} {v : Value} {n : Nat} {xs : List Value} (h : w.ownsRow base e size v n xs) (hb : ∀ g, v.ownBlock = some g → w'.heap[g]? = w.heap[g]?) : w'.ownsRow base e size v n xs := by
  refine ⟨h.1, ?_⟩
  rcases h.2 with h0 | ⟨g, cap, cur, rfl, h1, h2, r⟩
  · exact .inl h0
  · exact .inr ⟨g, cap, cur, rfl, h1, (hb g rfl).trans h2, r⟩
theorem own_base {w : World} {base base' : Nat} {e : TypeId} {size : Nat} {v : Value} {n : Nat} {xs : List Value} (h : w.ownsRow base e size v n xs) (hb : base' ≤ base) : w.ownsRow base' e size v n xs := by
  refine ⟨h.1, ?_⟩
  rcases h.2 with h0 | ⟨g, cap, cur, rfl, h1, r⟩
  · exact .inl h0
  · exact .inr ⟨g, cap, cur, rfl, by omega, r⟩
/-- the arena turned -/
theorem Rw2.arena (h : Rw2 B W w va vb xa xb) (hB : ∀ k, B.has k → W.heap.size ≤ k) (hF : FrA B w w') : Rw2 B W w' va vb xa xb :=
  ⟨own_kept h.oa fun g hg => hF.block g (h.oa.lt g hg).2 (h.na g hg), own_kept h.ob fun g hg => hF.block g (h.ob.lt g hg).2 (h.nb g hg), h.ap, h.na, h.nb, step_low h.low hF hB, h.tb⟩
theorem Rw2.below (h : Rw2 B W w va vb xa xb) (hb : Below w.heap.size w w') : Rw2 B W w' va vb xa xb :=
  ⟨own_kept h.oa fun g hg => hb.block g (h.oa.lt g hg).2, own_kept h.ob fun g hg => hb.block g (h.ob.lt g hg).2, h.ap, h.na, h.nb, below_then h.low hb, h.tb⟩
/-- rows that a part of the call built -/
theorem Rw2.wide {W1 : World} (h : Rw2 B W1 w va vb xa xb) (hl : Below W.heap.size W W1) (ht : HTab W) : Rw2 B W w va vb xa xb :=
  ⟨own_base h.oa hl.size, own_base h.ob hl.size, h.ap, h.na, h.nb, below_then hl h.low, tab_lt ht⟩
theorem intsV_one {xs : List Int} : ∀ u ∈ intsV xs, u.oneCell' = true := by
  intro u hu
  obtain ⟨x, -, rfl⟩ := List.mem_map.1 hu
  rfl
theorem SrcN.low {ad : Option Addr} {len : Nat} {xs : List Int} (h : SrcN W ad len xs) (hb : Below W.heap.size W w) : SrcN w ad len xs := by
  obtain ⟨h1, a, rfl, h2⟩ := h
  refine ⟨h1, a, rfl, fun j u hu => ?_⟩
  have hc := h2 j u hu
  have hl := block_lt_of_cell hc
  exact (hb.cell (p := a.add j) hl).trans hc
theorem infoInt : ∃ i, Tryd.prog.info? 3 = some i ∧ i.zero = some (.int .i64 0) ∧ i.size = 1 ∧ i.bytes = 8 := by
  have h : (Tryd.prog.info? 3).map (fun i => (i.zero, i.size, i.bytes)) = some (some (.int .i64 0), 1, 8) := infoI
  obtain ⟨i, hi, hzz⟩ := Option.map_eq_some_iff.1 h
  simp only [Prod.mk.injEq] at hzz
  exact ⟨i, hi, hzz.1, hzz.2.1, hzz.2.2⟩
/-- one row grows -/
theorem appA (ty : TypeId) (hA : ArAt B w s) (h : Rw2 B W w va vb xa xb) {ad : Option Addr} {len cap : Nat} {xs : List Int} (hs : SrcN w ad len xs) (hn : xa.length + xs.length ≤ 1000) :
    ∃ va' w', (Builtin.append_ #[22, 22] ty #[va, .slice ad len cap]).run Tryd.prog w = .ok va' w' ∧ ArAt B w' s ∧ Rw2 B W w' va' vb (xa ++ xs) xb := by
  obtain ⟨i, hi, hz, hz1, hz2⟩ := infoInt
  obtain ⟨hl, a, rfl, hc⟩ := hs
  subst hl
  obtain ⟨v', w', hr, h2, h3, -, h5⟩ := run_append_own_at (P := Tryd.prog) w W.heap.size 22 ty 3 i (.int .i64 0) 1 8 Tryd.underlying22 hi hz hz1 hz2 rfl (by decide) va xa.length (intsV xa) h.oa a xs.length cap (intsV xs) (by simp [intsV]) hc intsV_one (by unfold maxLen; omega) (by omega) h.low.size
  have hbl : ∀ g, v'.ownBlock = some g → va.ownBlock = some g ∨ g = w.heap.size := by
    intro g hg
    rcases h5 with h5 | h5
    · exact .inl (by rw [← h5]; exact hg)
    · right
      rw [h5] at hg
      exact (Option.some.inj hg).symm
  refine ⟨v', w', hr, ⟨hA.toArMem.same (fun k hk => h3.block k (hA.lt hk) fun e => h.na k e.symm hk) ?_, hA.ok⟩, ?_⟩
  · have hp := h.tb
    have hbk : ∀ k, k < W.heap.size → w'.heap[k]? = w.heap[k]? := fun k hk => h3.block k (Nat.lt_of_lt_of_le hk h.low.size) fun e => by have := (h.oa.lt k e.symm).1; omega
    exact htab_keep hA.tab fun k hk => hbk k (hp k hk)
  · refine ⟨?_, own_kept h.ob fun g hg => h3.block g (h.ob.lt g hg).2 fun e => h.ap g e.symm hg, fun g hg hb => ?_, fun g hg hb => ?_, h.nb, ?_, h.tb⟩
    · rw [List.length_append, show intsV (xa ++ xs) = intsV xa ++ intsV xs by simp [intsV]]
      exact h2
    · rcases hbl g hg with h6 | h6
      · exact h.ap g h6 hb
      · have := (h.ob.lt g hb).2; omega
    · rcases hbl g hg with h6 | h6
      · exact h.na g h6 hb
      · have := hA.lt hb; omega
    · exact h.low.grown h3 h.low.size fun k hk => (h.oa.lt k hk).1
theorem step_appA {ops : Array Oper} {o : Oper} {a : Act} {K : Act → World → Prop} {Q : Exit → Act → World → Prop} {E : Prop} (hgd : o.guard = none) (x y : Operand)
    (ho : o.op = .call { callee := .builtin .append, args := #[x, y], argTypes := #[22, 22] }) (hA : ArAt B w s) (h : Rw2 B W w va vb xa xb) {ad : Option Addr} {len cap : Nat} {xs : List Int} (hx : a.eval x = va) (hy : a.eval y = .slice ad len cap) (hs : SrcN w ad len xs) (hn : xa.length + xs.length ≤ 1000)
    (hK : ∀ va' w', ArAt B w' s → Rw2 B W w' va' vb (xa ++ xs) xb → K (a.put o.dst va') w') : if Region.wanted o (yielded ops a.tmps) = true then Oper.wp Tryd.prog o a w K Q else E := by
  have hw : Region.wanted o (yielded ops a.tmps) = true := by simp [Region.wanted, hgd]
  rw [if_pos hw]
  obtain ⟨va', w', hr, h2, h3⟩ := appA o.type hA h (cap := cap) hs hn
  unfold Oper.wp execOp
  simp only [ho, resolve, invoke, builtin, Sem.run_bind, Sem.run_pure, Result.andThen_ok, List.map_toArray, List.map_cons, List.map_nil, hx, hy, hr]
  exact hK va' w' h2 h3
theorem list_appA {ops : Array Oper} {rest : List Oper} {o : Oper} {a : Act} {Q : Exit → Act → World → Prop} (hgd : o.guard = none) (x y : Operand)
    (ho : o.op = .call { callee := .builtin .append, args := #[x, y], argTypes := #[22, 22] }) (hA : ArAt B w s) (h : Rw2 B W w va vb xa xb) {ad : Option Addr} {len cap : Nat} {xs : List Int} (hx : a.eval x = va) (hy : a.eval y = .slice ad len cap) (hs : SrcN w ad len xs) (hn : xa.length + xs.length ≤ 1000)
    (hK : ∀ va' w', ArAt B w' s → Rw2 B W w' va' vb (xa ++ xs) xb → wpList Tryd.prog ops Q rest (a.put o.dst va') w') : wpList Tryd.prog ops Q (o :: rest) a w := by
  refine wpList_plain hgd fun K' hK' => ?_
  obtain ⟨va', w', hr, h2, h3⟩ := appA o.type hA h (cap := cap) hs hn
  unfold Oper.wp execOp
  simp only [ho, resolve, invoke, builtin, Sem.run_bind, Sem.run_pure, Result.andThen_ok, List.map_toArray, List.map_cons, List.map_nil, hx, hy, hr]
  exact hK' _ _ (hK va' w' h2 h3)
theorem own_cell {base n g cap : Nat} {xs : List Int} (h : w.ownsRow base 3 1 (.slice (some ⟨g, 0, none⟩) n cap) n (intsV xs)) {j : Nat} {x : Int} (hx : xs[j]? = some x) : w.cell? ⟨g, j, none⟩ = some (.int .i64 x) := by
  have := h.cells (g := g) rfl j (.int .i64 x) (by simp [intsV, hx])
  rw [Go.WideShapes.add_plain, Nat.zero_add] at this
  exact this
theorem own_form {base n : Nat} {v : Value} {xs : List Value} (h : w.ownsRow base 3 1 v n xs) (hn : 0 < n) : ∃ g cap, v = .slice (some ⟨g, 0, none⟩) n cap ∧ n ≤ cap ∧ cap ≤ maxLen := by
  rcases h.2 with ⟨_, h0⟩ | ⟨g, cap, cur, rfl, h1, h2, h3, h4, h5, h6⟩
  · omega
  · exact ⟨g, cap, rfl, h3, h4⟩
theorem own_any {base n : Nat} {v : Value} {xs : List Value} (h : w.ownsRow base 3 1 v n xs) : ∃ a cap, v = .slice a n cap := by
  rcases h.2 with ⟨rfl, h0⟩ | ⟨g, cap, cur, rfl, _⟩
  · subst h0
    exact ⟨none, 0, rfl⟩
  · exact ⟨_, cap, rfl⟩
/-- parts of a row -/
theorem src_take {base n g cap : Nat} {xs : List Int} (h : w.ownsRow base 3 1 (.slice (some ⟨g, 0, none⟩) n cap) n (intsV xs)) (k : Nat) (hk : k ≤ xs.length) : SrcN w (some ⟨g, 0, none⟩) k (xs.take k) := by
  refine ⟨by simp; omega, _, rfl, fun j u hu => ?_⟩
  rw [intsV, List.getElem?_map] at hu
  obtain ⟨x, hx, rfl⟩ := Option.map_eq_some_iff.1 hu
  rw [Go.WideShapes.add_plain, Nat.zero_add]
  refine own_cell h ?_
  have hj : j < (xs.take k).length := (List.getElem?_eq_some_iff.1 hx).1
  simp at hj
  rw [List.getElem?_take_of_lt (by omega)] at hx
  exact hx
theorem src_drop {base n g cap : Nat} {xs : List Int} (h : w.ownsRow base 3 1 (.slice (some ⟨g, 0, none⟩) n cap) n (intsV xs)) (k : Nat) : SrcN w (some ⟨g, k, none⟩) (xs.length - k) (xs.drop k) := by
  refine ⟨by simp, _, rfl, fun j u hu => ?_⟩
  rw [intsV, List.getElem?_map] at hu
  obtain ⟨x, hx, rfl⟩ := Option.map_eq_some_iff.1 hu
  rw [Go.WideShapes.add_plain]
  refine own_cell h ?_
  rw [List.getElem?_drop] at hx
  exact hx
theorem src_rest {base n g cap : Nat} {xs : List Int} (h : w.ownsRow base 3 1 (.slice (some ⟨g, 0, none⟩) n cap) n (intsV xs)) (hn : xs.length = n) (hc : n ≤ cap) {k : Nat} (hk : k < n) : SrcN w (if cap = k + 1 then some ⟨g, 0, none⟩ else some ⟨g, k + 1, none⟩) (n - (k + 1)) (xs.drop (k + 1)) := by
  split
  · have e : n = k + 1 := by omega
    subst e
    rw [List.drop_of_length_le (by omega), Nat.sub_self]
    exact ⟨rfl, _, rfl, fun j u hu => by simp [intsV] at hu⟩
  · have := src_drop h (k + 1)
    rw [hn] at this
    exact this
theorem src_none (w : World) (a : Addr) : SrcN w (some a) 0 [] := ⟨rfl, a, rfl, fun j u hu => by simp [intsV] at hu⟩
theorem src_one (w : World) (x : Int) : SrcN (w.alloc (.cells #[.int .i64 x] 3 (0, 0))) (some ⟨w.heap.size, 0, none⟩) 1 [x] := by
  refine ⟨rfl, _, rfl, fun j u hu => ?_⟩
  have hj : j = 0 := by
    have := (List.getElem?_eq_some_iff.1 hu).1
    simp [intsV] at this
    exact this
  subst hj
  simp [intsV] at hu
  subst hu
  exact cell_of_row _ _ _ _ _ _ (heap_alloc_new w _)
end
end Go.Proofs.YtopnkfbcphbbiaaDoor.A9
namespace Go.Proofs.YtopnkfbcphbbiaaDoor.F0
open Go.RowKit
open H8 (HTab below_then)
open A9 (Ab ArAt ArMem FrA intsV SrcN own_kept own_form own_cell infoInt intsV_one step_low)

structure OwN (B : Ab) (W w : World) (n : Nat) (ov : Nat → Value) (xs : Nat → List Int) : Prop where
  row : ∀ i, i < n → w.ownsRow W.heap.size 3 1 (ov i) (xs i).length (intsV (xs i))
  ap : ∀ i j, i < n → j < n → i ≠ j → ∀ g, (ov i).ownBlock = some g → (ov j).ownBlock ≠ some g
  nb : ∀ i, i < n → ∀ g, (ov i).ownBlock = some g → ¬ B.has g
  low : Below W.heap.size W w
  tb : ∀ k, A9.isTab k → k < W.heap.size
def upV (f : Nat → Value) (k : Nat) (v : Value) : Nat → Value := fun j => if j = k then v else f j
def upX (f : Nat → List Int) (k : Nat) (v : List Int) : Nat → List Int := fun j => if j = k then v else f j
theorem upV_same (f : Nat → Value) (k : Nat) (v : Value) : upV f k v k = v := if_pos rfl
theorem upV_other (f : Nat → Value) {k j : Nat} (v : Value) (h : j ≠ k) : upV f k v j = f j := if_neg h
theorem upX_same (f : Nat → List Int) (k : Nat) (v : List Int) : upX f k v k = v := if_pos rfl
theorem upX_other (f : Nat → List Int) {k j : Nat} (v : List Int) (h : j ≠ k) : upX f k v j = f j := if_neg h
section
variable {B : Ab} {W w w' : World} {n : Nat} {s : A9.Ar} {ov : Nat → Value} {xs : Nat → List Int}
theorem OwN.arena (h : OwN B W w n ov xs) (hB : ∀ k, B.has k → W.heap.size ≤ k) (hF : FrA B w w') : OwN B W w' n ov xs :=
  ⟨fun i hi => own_kept (h.row i hi) fun g hg => hF.block g ((h.row i hi).lt g hg).2 (h.nb i hi g hg), h.ap, h.nb, step_low h.low hF hB, h.tb⟩
theorem OwN.below (h : OwN B W w n ov xs) (hb : Below w.heap.size w w') : OwN B W w' n ov xs :=
  ⟨fun i hi => own_kept (h.row i hi) fun g hg => hb.block g ((h.row i hi).lt g hg).2, h.ap, h.nb, below_then h.low hb, h.tb⟩
/-- a block that is no row's turned -/
theorem OwN.setOther (h : OwN B W w n ov xs) {q : Nat} (hq : ∀ i, i < n → (ov i).ownBlock ≠ some q) (hl : W.heap.size ≤ q) (f : Nat) (v : Value) : OwN B W (w.setCell ⟨q, f, none⟩ v) n ov xs :=
  ⟨fun i hi => own_kept (h.row i hi) fun g hg => Below.heap_setCell _ _ _ _ (fun e => hq i hi (by have e2 : g = q := e; rw [← e2]; exact hg)), h.ap, h.nb, h.low.setCell (p := ⟨q, f, none⟩) hl v, h.tb⟩
/-- a row that another one takes the place of -/
theorem OwN.put (h : OwN B W w n ov xs) {k : Nat} {v : Value} {l : List Int} (hv : w.ownsRow W.heap.size 3 1 v l.length (intsV l)) (ha : ∀ i, i < n → i ≠ k → ∀ g, v.ownBlock = some g → (ov i).ownBlock ≠ some g) (hn : ∀ g, v.ownBlock = some g → ¬ B.has g) : OwN B W w n (upV ov k v) (upX xs k l) := by
  refine ⟨fun i hi => ?_, fun i j hi hj hij g hg => ?_, fun i hi g hg => ?_, h.low, h.tb⟩
  · by_cases e : i = k
    · subst e
      rw [upV_same, upX_same]
      exact hv
    · rw [upV_other _ _ e, upX_other _ _ e]
      exact h.row i hi
  · by_cases e : i = k
    · subst e
      rw [upV_same] at hg
      rw [upV_other _ _ (Ne.symm hij)]
      exact ha j hj (Ne.symm hij) g hg
    · rw [upV_other _ _ e] at hg
      by_cases e2 : j = k
      · subst e2
        rw [upV_same]
        exact fun h2 => ha i hi e g h2 hg
      · rw [upV_other _ _ e2]
        exact h.ap i j hi hj hij g hg
  · by_cases e : i = k
    · subst e
      rw [upV_same] at hg
      exact hn g hg
    · rw [upV_other _ _ e] at hg
      exact h.nb i hi g hg
/-- a row's first m -/
theorem own_shrink {base g cap N : Nat} {l : List Int} (h : w.ownsRow base 3 1 (.slice (some ⟨g, 0, none⟩) N cap) N (intsV l)) {m : Nat} (hm : m ≤ N) : w.ownsRow base 3 1 (.slice (some ⟨g, 0, none⟩) m cap) m (intsV (l.take m)) := by
  have hlen := h.1
  rcases h.2 with ⟨h0, _⟩ | ⟨g', cap', cur, h0, h1, h2, h3, h4, h5, h6⟩
  · cases h0
  · cases h0
    refine ⟨?_, .inr ⟨g, cap, cur, rfl, h1, h2, by omega, h4, h5, ?_⟩⟩
    · simp [intsV] at hlen ⊢
      omega
    · rw [intsV, List.map_take]
      have : intsV l = cur.toList.take (N * 1) := by simpa using h6.symm
      rw [show l.map (Value.int .i64) = intsV l from rfl, this, List.take_take]
      simp
      omega
/-- one row grows -/
theorem OwN.grow (ty : TypeId) (hA : ArAt B w s) (h : OwN B W w n ov xs) {k : Nat} (hk : k < n) {ad : Option Addr} {len cap : Nat} {ys : List Int} (hs : SrcN w ad len ys) (hn : (xs k).length + ys.length ≤ 1000) :
    ∃ va' w', (Builtin.append_ #[22, 22] ty #[ov k, .slice ad len cap]).run Tryd.prog w = .ok va' w' ∧ ArAt B w' s ∧ OwN B W w' n (upV ov k va') (upX xs k (xs k ++ ys)) ∧ (∀ b, b < w.heap.size → (ov k).ownBlock ≠ some b → w'.heap[b]? = w.heap[b]?) ∧ w.heap.size ≤ w'.heap.size ∧ (va'.ownBlock = (ov k).ownBlock ∨ va'.ownBlock = some w.heap.size) := by
  obtain ⟨i, hi, hz, hz1, hz2⟩ := infoInt
  obtain ⟨hl, a, rfl, hc⟩ := hs
  subst hl
  have hrow := h.row k hk
  obtain ⟨v', w', hr, h2, h3, -, h5⟩ := run_append_own_at (P := Tryd.prog) w W.heap.size 22 ty 3 i (.int .i64 0) 1 8 Tryd.underlying22 hi hz hz1 hz2 rfl (by decide) (ov k) (xs k).length (intsV (xs k)) hrow a ys.length cap (intsV ys) (by simp [intsV]) hc intsV_one (by unfold maxLen; omega) (by omega) h.low.size
  have hbl : ∀ g, v'.ownBlock = some g → (ov k).ownBlock = some g ∨ g = w.heap.size := by
    intro g hg
    rcases h5 with h5 | h5
    · exact .inl (by rw [← h5]; exact hg)
    · right
      rw [h5] at hg
      exact (Option.some.inj hg).symm
  have hbk : ∀ b, b < W.heap.size → w'.heap[b]? = w.heap[b]? := fun b hb => h3.block b (Nat.lt_of_lt_of_le hb h.low.size) fun e => by have := (hrow.lt b e.symm).1; omega
  have hrest : OwN B W w' n (upV ov k v') (upX xs k (xs k ++ ys)) := by
    refine ⟨fun j hj => ?_, fun p q hp hq hpq g hg => ?_, fun j hj g hg => ?_, h.low.grown h3 h.low.size fun b hb => (hrow.lt b hb).1, h.tb⟩
    · by_cases e : j = k
      · subst e
        rw [upV_same, upX_same, List.length_append, show intsV (xs j ++ ys) = intsV (xs j) ++ intsV ys by simp [intsV]]
        exact h2
      · rw [upV_other _ _ e, upX_other _ _ e]
        exact own_kept (h.row j hj) fun g hg => h3.block g ((h.row j hj).lt g hg).2 fun e2 => h.ap k j hk hj (Ne.symm e) g e2.symm hg
    · by_cases e : p = k
      · subst e
        rw [upV_same] at hg
        rw [upV_other _ _ (Ne.symm hpq)]
        rcases hbl g hg with h6 | h6
        · exact h.ap p q hp hq hpq g h6
        · exact fun h7 => by have := ((h.row q hq).lt g h7).2; omega
      · rw [upV_other _ _ e] at hg
        by_cases e2 : q = k
        · subst e2
          rw [upV_same]
          intro h7
          rcases hbl g h7 with h6 | h6
          · exact h.ap p q hp hq hpq g hg h6
          · have := ((h.row p hp).lt g hg).2; omega
        · rw [upV_other _ _ e2]
          exact h.ap p q hp hq hpq g hg
    · by_cases e : j = k
      · subst e
        rw [upV_same] at hg
        rcases hbl g hg with h6 | h6
        · exact h.nb j hj g h6
        · exact fun hb => by have := hA.lt hb; omega
      · rw [upV_other _ _ e] at hg
        exact h.nb j hj g hg
  refine ⟨v', w', hr, ⟨hA.toArMem.same (fun b hb => h3.block b (hA.lt hb) fun e => h.nb k hk b e.symm hb) ?_, hA.ok⟩, hrest, fun b hb hne => h3.block b hb (fun e => hne e.symm), h3.size, h5⟩
  exact A9.htab_keep hA.tab fun k hk => hbk k (h.tb k hk)
end
end Go.Proofs.YtopnkfbcphbbiaaDoor.F0
