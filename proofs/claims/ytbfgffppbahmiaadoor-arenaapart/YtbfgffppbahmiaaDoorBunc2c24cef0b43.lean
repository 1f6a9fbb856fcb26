/-
  Helpers: AaR.
-/
import Derived.Test.YtbfgffppbahmiaaDoorBun1a6599476d80
import Derived.Maps.AppendAt
import Derived.Deep.AppendLies
namespace Go.Proofs.YtbfgffppbahmiaaDoor
open Go.RowKit
open H8 (HTab below_then)

def intsV (xs : List Int) : List Value := xs.map (Value.int .i64)
structure Rw2 (B : Ab) (W w : World) (va vb : Value) (xa xb : List Int) : Prop where
  oa : w.ownsRow W.heap.size 3 1 va xa.length (intsV xa)
  ob : w.ownsRow W.heap.size 3 1 vb xb.length (intsV xb)
  ap : ∀ g, va.ownBlock = some g → vb.ownBlock ≠ some g
  na : ∀ g, va.ownBlock = some g → ¬ B.has g
  nb : ∀ g, vb.ownBlock = some g → ¬ B.has g
  low : Below W.heap.size W w
  tb : 1 < W.heap.size ∧ 0 < W.heap.size
/-- ints that lie in a row -/
structure SrcN (w : World) (ad : Option Addr) (len : Nat) (xs : List Int) : Prop where
  len_ : xs.length = len
  at_ : ∃ a, ad = some a ∧ ∀ j u, (intsV xs)[j]? = some u → w.cell? (a.add j) = some u
section
variable {B : Ab} {W w w' : World} {s : Ar} {va vb : Value} {xa xb : List Int}
theorem Rw2.swap (h : Rw2 B W w va vb xa xb) : Rw2 B W w vb va xb xa := ⟨h.ob, h.oa, fun g h1 h2 => h.ap g h2 h1, h.nb, h.na, h.low, h.tb⟩
theorem Rw2.nil (B : Ab) (w : World) (v : World) (h : Below w.heap.size w v) (ht : HTab w) : Rw2 B w v (.slice none 0 0) (.slice none 0 0) [] [] :=
  ⟨World.ownsRow_nil _ _ _ _, World.ownsRow_nil _ _ _ _, fun g h => by simp [Value.ownBlock] at h, fun g h => by simp [Value.ownBlock] at h, fun g h => by simp [Value.ownBlock] at h, h, ht.pos⟩
theorem own_kept {w w' : World} {base : Nat} {e : TypeId} {size : Nat} {v : Value} {n : Nat} {xs : List Value} (h : w.ownsRow base e size v n xs) (hb : ∀ g, v.ownBlock = some g → w'.heap[g]? = w.heap[g]?) : w'.ownsRow base e size v n xs := by
  refine ⟨h.1, ?_⟩
  rcases h.2 with h0 | ⟨g, cap, cur, rfl, h1, h2, r⟩
  · exact .inl h0
  · exact .inr ⟨g, cap, cur, rfl, h1, (hb g rfl).trans h2, r⟩
theorem own_base {w : World} {base base' : Nat} {e : TypeId} {size : Nat} {v : Value} {n : Nat} {xs : List Value} (h : w.ownsRow base e size v n xs) (hb : base' ≤ base) : w.ownsRow base' e size v n xs := by
  refine ⟨h.1, ?_⟩
  rcases h.2 with h0 | ⟨g, cap, cur, rfl, h1, r⟩
  · exact .inl h0
  · exact .inr ⟨g, cap, cur, rfl, by omega, r⟩
/-- the arena turned -/
theorem Rw2.arena (h : Rw2 B W w va vb xa xb) (hB : ∀ k, B.has k → W.heap.size ≤ k) (hF : FrA B w w') : Rw2 B W w' va vb xa xb :=
  ⟨own_kept h.oa fun g hg => hF.block g (h.oa.lt g hg).2 (h.na g hg), own_kept h.ob fun g hg => hF.block g (h.ob.lt g hg).2 (h.nb g hg), h.ap, h.na, h.nb, step_low h.low hF hB, h.tb⟩
theorem Rw2.below (h : Rw2 B W w va vb xa xb) (hb : Below w.heap.size w w') : Rw2 B W w' va vb xa xb :=
  ⟨own_kept h.oa fun g hg => hb.block g (h.oa.lt g hg).2, own_kept h.ob fun g hg => hb.block g (h.ob.lt g hg).2, h.ap, h.na, h.nb, below_then h.low hb, h.tb⟩
/-- rows that a part of the call built -/
theorem Rw2.wide {W1 : World} (h : Rw2 B W1 w va vb xa xb) (hl : Below W.heap.size W W1) (ht : HTab W) : Rw2 B W w va vb xa xb :=
  ⟨own_base h.oa hl.size, own_base h.ob hl.size, h.ap, h.na, h.nb, below_then hl h.low, ht.pos⟩
theorem intsV_one {xs : List Int} : ∀ u ∈ intsV xs, u.oneCell' = true := by
  intro u hu
  obtain ⟨x, -, rfl⟩ := List.mem_map.1 hu
  rfl
theorem SrcN.low {ad : Option Addr} {len : Nat} {xs : List Int} (h : SrcN W ad len xs) (hb : Below W.heap.size W w) : SrcN w ad len xs := by
  obtain ⟨h1, a, rfl, h2⟩ := h
  refine ⟨h1, a, rfl, fun j u hu => ?_⟩
  have hc := h2 j u hu
  have hl := block_lt_of_cell hc
  exact (hb.cell (p := a.add j) hl).trans hc
theorem infoInt : ∃ i, Tryd.prog.info? 3 = some i ∧ i.zero = some (.int .i64 0) ∧ i.size = 1 ∧ i.bytes = 8 := by
  have h : (Tryd.prog.info? 3).map (fun i => (i.zero, i.size, i.bytes)) = some (some (.int .i64 0), 1, 8) := infoI
  obtain ⟨i, hi, hzz⟩ := Option.map_eq_some_iff.1 h
  simp only [Prod.mk.injEq] at hzz
  exact ⟨i, hi, hzz.1, hzz.2.1, hzz.2.2⟩
/-- one row grows -/
theorem appA (ty : TypeId) (hA : ArAt B w s) (h : Rw2 B W w va vb xa xb) {ad : Option Addr} {len cap : Nat} {xs : List Int} (hs : SrcN w ad len xs) (hn : xa.length + xs.length ≤ 1000) :
    ∃ va' w', (Builtin.append_ #[22, 22] ty #[va, .slice ad len cap]).run Tryd.prog w = .ok va' w' ∧ ArAt B w' s ∧ Rw2 B W w' va' vb (xa ++ xs) xb := by
  obtain ⟨i, hi, hz, hz1, hz2⟩ := infoInt
  obtain ⟨hl, a, rfl, hc⟩ := hs
  subst hl
  obtain ⟨v', w', hr, h2, h3, -, h5⟩ := run_append_own_at (P := Tryd.prog) w W.heap.size 22 ty 3 i (.int .i64 0) 1 8 Tryd.underlying22 hi hz hz1 hz2 rfl (by decide) va xa.length (intsV xa) h.oa a xs.length cap (intsV xs) (by simp [intsV]) hc intsV_one (by unfold maxLen; omega) (by omega) h.low.size
  have hbl : ∀ g, v'.ownBlock = some g → va.ownBlock = some g ∨ g = w.heap.size := by
    intro g hg
    rcases h5 with h5 | h5
    · exact .inl (by rw [← h5]; exact hg)
    · right
      rw [h5] at hg
      exact (Option.some.inj hg).symm
  refine ⟨v', w', hr, ⟨hA.toArMem.same (fun k hk => h3.block k (hA.lt hk) fun e => h.na k e.symm hk) ?_, hA.ok⟩, ?_⟩
  · have hp := h.tb
    have hbk : ∀ k, k < W.heap.size → w'.heap[k]? = w.heap[k]? := fun k hk => h3.block k (Nat.lt_of_lt_of_le hk h.low.size) fun e => by have := (h.oa.lt k e.symm).1; omega
    exact ⟨fun i hi => by rw [World.cell?_of_block (w := w) (hbk _ hp.1)]; exact hA.tab.sz i hi, fun i hi => by rw [World.cell?_of_block (w := w) (hbk _ hp.2)]; exact hA.tab.fd i hi⟩
  · refine ⟨?_, own_kept h.ob fun g hg => h3.block g (h.ob.lt g hg).2 fun e => h.ap g e.symm hg, fun g hg hb => ?_, fun g hg hb => ?_, h.nb, ?_, h.tb⟩
    · rw [List.length_append, show intsV (xa ++ xs) = intsV xa ++ intsV xs by simp [intsV]]
      exact h2
    · rcases hbl g hg with h6 | h6
      · exact h.ap g h6 hb
      · have := (h.ob.lt g hb).2; omega
    · rcases hbl g hg with h6 | h6
      · exact h.na g h6 hb
      · have := hA.lt hb; omega
    · exact h.low.grown h3 h.low.size fun k hk => (h.oa.lt k hk).1
theorem step_appA {ops : Array Oper} {o : Oper} {a : Act} {K : Act → World → Prop} {Q : Exit → Act → World → Prop} {E : Prop} (hgd : o.guard = none) (x y : Operand)
    (ho : o.op = .call { callee := .builtin .append, args := #[x, y], argTypes := #[22, 22] }) (hA : ArAt B w s) (h : Rw2 B W w va vb xa xb) {ad : Option Addr} {len cap : Nat} {xs : List Int} (hx : a.eval x = va) (hy : a.eval y = .slice ad len cap) (hs : SrcN w ad len xs) (hn : xa.length + xs.length ≤ 1000)
    (hK : ∀ va' w', ArAt B w' s → Rw2 B W w' va' vb (xa ++ xs) xb → K (a.put o.dst va') w') : if Region.wanted o (yielded ops a.tmps) = true then Oper.wp Tryd.prog o a w K Q else E := by
  have hw : Region.wanted o (yielded ops a.tmps) = true := by simp [Region.wanted, hgd]
  rw [if_pos hw]
  obtain ⟨va', w', hr, h2, h3⟩ := appA o.type hA h (cap := cap) hs hn
  unfold Oper.wp execOp
  simp only [ho, resolve, invoke, builtin, Sem.run_bind, Sem.run_pure, Result.andThen_ok, List.map_toArray, List.map_cons, List.map_nil, hx, hy, hr]
  exact hK va' w' h2 h3
theorem list_appA {ops : Array Oper} {rest : List Oper} {o : Oper} {a : Act} {Q : Exit → Act → World → Prop} (hgd : o.guard = none) (x y : Operand)
    (ho : o.op = .call { callee := .builtin .append, args := #[x, y], argTypes := #[22, 22] }) (hA : ArAt B w s) (h : Rw2 B W w va vb xa xb) {ad : Option Addr} {len cap : Nat} {xs : List Int} (hx : a.eval x = va) (hy : a.eval y = .slice ad len cap) (hs : SrcN w ad len xs) (hn : xa.length + xs.length ≤ 1000)
    (hK : ∀ va' w', ArAt B w' s → Rw2 B W w' va' vb (xa ++ xs) xb → wpList Tryd.prog ops Q rest (a.put o.dst va') w') : wpList Tryd.prog ops Q (o :: rest) a w := by
  refine wpList_plain hgd fun K' hK' => ?_
  obtain ⟨va', w', hr, h2, h3⟩ := appA o.type hA h (cap := cap) hs hn
  unfold Oper.wp execOp
  simp only [ho, resolve, invoke, builtin, Sem.run_bind, Sem.run_pure, Result.andThen_ok, List.map_toArray, List.map_cons, List.map_nil, hx, hy, hr]
  exact hK' _ _ (hK va' w' h2 h3)
theorem own_cell {base n g cap : Nat} {xs : List Int} (h : w.ownsRow base 3 1 (.slice (some ⟨g, 0, none⟩) n cap) n (intsV xs)) {j : Nat} {x : Int} (hx : xs[j]? = some x) : w.cell? ⟨g, j, none⟩ = some (.int .i64 x) := by
  have := h.cells (g := g) rfl j (.int .i64 x) (by simp [intsV, hx])
  rw [Go.WideShapes.add_plain, Nat.zero_add] at this
  exact this
theorem own_form {base n : Nat} {v : Value} {xs : List Value} (h : w.ownsRow base 3 1 v n xs) (hn : 0 < n) : ∃ g cap, v = .slice (some ⟨g, 0, none⟩) n cap ∧ n ≤ cap ∧ cap ≤ maxLen := by
  rcases h.2 with ⟨_, h0⟩ | ⟨g, cap, cur, rfl, h1, h2, h3, h4, h5, h6⟩
  · omega
  · exact ⟨g, cap, rfl, h3, h4⟩
theorem own_any {base n : Nat} {v : Value} {xs : List Value} (h : w.ownsRow base 3 1 v n xs) : ∃ a cap, v = .slice a n cap := by
  rcases h.2 with ⟨rfl, h0⟩ | ⟨g, cap, cur, rfl, _⟩
  · subst h0
    exact ⟨none, 0, rfl⟩
  · exact ⟨_, cap, rfl⟩
/-- parts of a row -/
theorem src_take {base n g cap : Nat} {xs : List Int} (h : w.ownsRow base 3 1 (.slice (some ⟨g, 0, none⟩) n cap) n (intsV xs)) (k : Nat) (hk : k ≤ xs.length) : SrcN w (some ⟨g, 0, none⟩) k (xs.take k) := by
  refine ⟨by simp; omega, _, rfl, fun j u hu => ?_⟩
  rw [intsV, List.getElem?_map] at hu
  obtain ⟨x, hx, rfl⟩ := Option.map_eq_some_iff.1 hu
  rw [Go.WideShapes.add_plain, Nat.zero_add]
  refine own_cell h ?_
  have hj : j < (xs.take k).length := (List.getElem?_eq_some_iff.1 hx).1
  simp at hj
  rw [List.getElem?_take_of_lt (by omega)] at hx
  exact hx
theorem src_drop {base n g cap : Nat} {xs : List Int} (h : w.ownsRow base 3 1 (.slice (some ⟨g, 0, none⟩) n cap) n (intsV xs)) (k : Nat) : SrcN w (some ⟨g, k, none⟩) (xs.length - k) (xs.drop k) := by
  refine ⟨by simp, _, rfl, fun j u hu => ?_⟩
  rw [intsV, List.getElem?_map] at hu
  obtain ⟨x, hx, rfl⟩ := Option.map_eq_some_iff.1 hu
  rw [Go.WideShapes.add_plain]
  refine own_cell h ?_
  rw [List.getElem?_drop] at hx
  exact hx
theorem src_rest {base n g cap : Nat} {xs : List Int} (h : w.ownsRow base 3 1 (.slice (some ⟨g, 0, none⟩) n cap) n (intsV xs)) (hn : xs.length = n) (hc : n ≤ cap) {k : Nat} (hk : k < n) : SrcN w (if cap = k + 1 then some ⟨g, 0, none⟩ else some ⟨g, k + 1, none⟩) (n - (k + 1)) (xs.drop (k + 1)) := by
  split
  · have e : n = k + 1 := by omega
    subst e
    rw [List.drop_of_length_le (by omega), Nat.sub_self]
    exact ⟨rfl, _, rfl, fun j u hu => by simp [intsV] at hu⟩
  · have := src_drop h (k + 1)
    rw [hn] at this
    exact this
theorem src_none (w : World) (a : Addr) : SrcN w (some a) 0 [] := ⟨rfl, a, rfl, fun j u hu => by simp [intsV] at hu⟩
theorem src_one (w : World) (x : Int) : SrcN (w.alloc (.cells #[.int .i64 x] 3 (0, 0))) (some ⟨w.heap.size, 0, none⟩) 1 [x] := by
  refine ⟨rfl, _, rfl, fun j u hu => ?_⟩
  have hj : j = 0 := by
    have := (List.getElem?_eq_some_iff.1 hu).1
    simp [intsV] at this
    exact this
  subst hj
  simp [intsV] at hu
  subst hu
  exact cell_of_row _ _ _ _ _ _ (heap_alloc_new w _)
end
end Go.Proofs.YtbfgffppbahmiaaDoor
