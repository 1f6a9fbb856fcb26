/-
  Helpers: FrT, FrV, FrW.
-/
import Derived.Test.YtfljoedjnigfjaaBuna75fe8cbcebc
import Derived.Test.YtfljoedjnigfjaaBuna1b37bebfd83
import Derived.Deep.CutBlock
import Derived.Deep.DeepCutAuto
import Derived.Deep.Grids
import Derived.Test.YtfljoedjnigfjaaBun0e4d5dace374
import Derived.Deep.QuietTactic
import Derived.BigQuiet
namespace Go.Proofs.Ytfljoedjnigfjaa
open Go.RowKit
open A9 (Ab ArAt ArMem FrA Ar rawA useA ptrA New9 new9 intsV SrcN own_kept own_base infoInt intsV_one src_one isTab tab_lt htab_keep own_cell own_form own_any)
open H8 (HTab below_then)

/-- an argument's bools -/
def BAt (w : World) (ad : Option Addr) (len : Nat) : Prop := ∀ k, k < len → ∃ b o x, ad = some ⟨b, o, none⟩ ∧ w.cell? ⟨b, o + k, none⟩ = some (.bool x)
theorem BAt.low {W w' : World} {ad : Option Addr} {len : Nat} (h : BAt W ad len) (hb : Below W.heap.size W w') : BAt w' ad len := fun k hk => by
  obtain ⟨b, o, z, h1, h3⟩ := h k hk
  exact ⟨b, o, z, h1, (hb.cell (p := ⟨b, o + k, none⟩) (block_lt_of_cell h3)).trans h3⟩
theorem cellsBool : Try.prog.cellsOf 4 = 1 := by kernel_rfl
theorem bools_in {H : Type} {enc : TypeId × Value → H} {W : World} {v : Value} {d : DataW H} {ps : List MemPlace} (hv : ∃ a len cap, v = .slice a len cap) (h : DataW.Trod enc Try.prog W 0 (fun _ => true) true 51 v d ps) : ∃ ad len cap, v = .slice ad len cap ∧ len ≤ 9223372036854775807 ∧ BAt W ad len := by
  obtain ⟨a0, len, cap, rfl⟩ := hv
  obtain ⟨fuel, hf⟩ := h
  rcases Go.Deep.open_bools Try.underlying51 Try.underlying4 cellsBool hf with ⟨hcs, -⟩ | ⟨a, len', cap', F, hcs, -, hl, hm, -, hcell⟩
  · simp [Value.cells] at hcs
    obtain ⟨rfl, rfl, rfl⟩ := hcs
    exact ⟨none, 0, 0, rfl, by omega, fun k hk => by omega⟩
  · simp [Value.cells] at hcs
    obtain ⟨rfl, rfl, rfl⟩ := hcs
    unfold maxLen at hm
    refine ⟨some a, len, cap, rfl, by omega, fun k hk => ?_⟩
    have h0 := hcell 0 (by omega)
    obtain ⟨b, off, spot⟩ := a
    have hspot : spot = none := by simpa [Addr.add] using World.cell?_spot h0
    subst hspot
    exact ⟨b, off, F k, rfl, by rw [← Go.WideShapes.add_plain]; exact hcell k (by omega)⟩
/-- an arena, its places, and a row of the call's own -/
structure Tg (B : Ab) (W w : World) (s : Ar) (g : Nat) (p : Pl5) (lv : Value) (xs : List Nat) : Prop where
  wk : Wk B W w s g p
  ow : w.ownsRow W.heap.size 3 1 lv xs.length (intsV (basesF xs))
  nb : ∀ r, lv.ownBlock = some r → ¬ B.has r ∧ r ≠ g
section
variable {B : Ab} {W w w' : World} {s s' : Ar} {g q : Nat} {p : Pl5} {lv : Value} {xs : List Nat}
theorem Tg.nil (h : Wk B W w s g p) : Tg B W w s g p (.slice none 0 0) [] := ⟨h, World.ownsRow_nil _ _ _ _, fun r hr => by simp [Value.ownBlock] at hr⟩
theorem Tg.below (h : Tg B W w s g p lv xs) (hb : Below w.heap.size w w') : Tg B W w' s g p lv xs := ⟨h.wk.below hb, own_kept h.ow fun r hr => hb.block r (h.ow.lt r hr).2, h.nb⟩
theorem Tg.arena (h : Tg B W w s g p lv xs) (hA : ArAt B w' s') (hF : FrA B w w') : Tg B W w' s' g p lv xs := ⟨h.wk.arena hA hF, own_kept h.ow fun r hr => hF.block r (h.ow.lt r hr).2 (h.nb r hr).1, h.nb⟩
theorem Tg.step (h : Tg B W w s g p lv xs) (hW : Wk B W w' s' g p) (hF : FrS (fun k => B.has k ∨ k = q) w w') (hq : lv.ownBlock ≠ some q) : Tg B W w' s' g p lv xs :=
  ⟨hW, own_kept h.ow fun r hr => hF.block r (h.ow.lt r hr).2 fun hh => hh.elim (h.nb r hr).1 fun e => hq (by rw [hr, e]), h.nb⟩
theorem Tg.far (h : Tg B W w s g p lv xs) (hq : w.heap.size ≤ q) : lv.ownBlock ≠ some q := fun e => by have := (h.ow.lt q e).2; omega
theorem Tg.hT (h : Tg B W w s g p lv xs) (hTW : HTab W) : HTab w := hTW.below h.wk.low
theorem Tg.app (ty : TypeId) (h : Tg B W w s g p lv xs) (hTW : ∀ k, isTab k → k < W.heap.size) {ad : Option Addr} {cap : Nat} {x : Nat} (hs : SrcN w ad 1 [8 * (x : Int)]) (hn : xs.length ≤ 1000) :
    ∃ v' w', (Builtin.append_ #[22, 22] ty #[lv, .slice ad 1 cap]).run Try.prog w = .ok v' w' ∧ Tg B W w' s g p v' (xs ++ [x]) := by
  obtain ⟨i, hi, hz, hz1, hz2⟩ := infoInt
  obtain ⟨hl, a, rfl, hc⟩ := hs
  have hxl : (basesF xs).length = xs.length := basesF_len xs
  obtain ⟨v', w', hr, h2, h3, -, h5⟩ := run_append_own_at (P := Try.prog) w W.heap.size 22 ty 3 i (.int .i64 0) 1 8 Try.underlying22 hi hz hz1 hz2 rfl (by decide) lv xs.length (intsV (basesF xs)) h.ow a 1 cap (intsV [8 * (x : Int)]) (by simp [intsV]) hc intsV_one (by unfold maxLen; omega) (by omega) h.wk.low.size
  have hbk : ∀ k, k < w.heap.size → lv.ownBlock ≠ some k → w'.heap[k]? = w.heap[k]? := fun k hk hne => h3.block k hk fun e => hne e.symm
  have hlo : ∀ k, k < W.heap.size → w'.heap[k]? = w.heap[k]? := fun k hk => hbk k (Nat.lt_of_lt_of_le hk h.wk.low.size) fun e => by have := (h.ow.lt k e).1; omega
  have hA : ArAt B w' s := ⟨h.wk.ar.toArMem.same (fun k hk => hbk k (h.wk.ar.lt hk) fun e => (h.nb k e).1 hk) (htab_keep h.wk.ar.tab fun k hk => hlo k (hTW k hk)), h.wk.ar.ok⟩
  have hgl := h.wk.glt
  refine ⟨v', w', hr, ⟨hA, h.wk.low.grown h3 h.wk.low.size fun b hb => (h.ow.lt b hb).1, h.wk.own, (hbk g hgl fun e => (h.nb g e).2 rfl).trans h.wk.bx, h.wk.gB, h.wk.gW⟩, ?_, fun r hr => ?_⟩
  · rw [List.length_append, show intsV (basesF (xs ++ [x])) = intsV (basesF xs) ++ intsV [8 * (x : Int)] by simp [intsV, basesF]]
    exact h2
  · rcases h5 with h5 | h5
    · exact h.nb r (by rw [← h5]; exact hr)
    · rw [h5] at hr
      have e : w.heap.size = r := Option.some.inj hr
      exact ⟨fun hb => by have := h.wk.ar.lt hb; omega, by omega⟩
theorem list_appT {ops : Array Oper} {rest : List Oper} {o : Oper} {a : Act} {Q : Exit → Act → World → Prop} (hgd : o.guard = none) (x y : Operand)
    (ho : o.op = .call { callee := .builtin .append, args := #[x, y], argTypes := #[22, 22] }) (h : Tg B W w s g p lv xs) (hTW : ∀ k, isTab k → k < W.heap.size) {ad : Option Addr} {cap : Nat} {z : Nat} (hx : a.eval x = lv) (hy : a.eval y = .slice ad 1 cap) (hs : SrcN w ad 1 [8 * (z : Int)]) (hn : xs.length ≤ 1000)
    (hK : ∀ v' w', Tg B W w' s g p v' (xs ++ [z]) → wpList Try.prog ops Q rest (a.put o.dst v') w') : wpList Try.prog ops Q (o :: rest) a w := by
  refine wpList_plain hgd fun K' hK' => ?_
  obtain ⟨v', w', hr, h2⟩ := h.app o.type hTW (cap := cap) hs hn
  unfold Oper.wp execOp
  simp only [ho, resolve, invoke, builtin, Sem.run_bind, Sem.run_pure, Result.andThen_ok, List.map_toArray, List.map_cons, List.map_nil, hx, hy, hr]
  exact hK' _ _ (hK v' w' h2)
/-- the row's last one gone -/
theorem Tg.shrink {r cap n : Nat} (h : Tg B W w s g p (.slice (some ⟨r, 0, none⟩) (n + 1) cap) xs) (hl : xs.length = n + 1) : Tg B W w s g p (.slice (some ⟨r, 0, none⟩) n cap) (xs.take n) := by
  have ho := h.ow
  rw [hl] at ho
  have h2 := own_shrink ho (Nat.le_succ n)
  refine ⟨h.wk, ?_, h.nb⟩
  rw [List.length_take, hl, show min n (n + 1) = n by omega, show basesF (xs.take n) = (basesF xs).take n by simp [basesF]]
  exact h2
end
/-! ### plainly -/
theorem chn_rev {lk : Nat → Int} : ∀ {a : List Nat} {x y : Nat} {c : List Nat}, Chn lk (a ++ x :: y :: c) → lk x = (y : Int) + 1
  | [], _, _, _, h => h.1
  | _ :: _, _, _, _, h => chn_rev h.2
theorem rev_link {lk : Nat → Int} {xs : List Nat} (h : Chn lk xs.reverse) {k : Nat} (h1 : k + 1 < xs.length) : lk xs[k + 1] = (xs[k] : Int) + 1 := by
  have e : xs = xs.take k ++ xs[k] :: xs[k + 1] :: xs.drop (k + 2) := by
    rw [List.getElem_cons_drop, List.getElem_cons_drop, List.take_append_drop]
  rw [e] at h
  simp only [List.reverse_append, List.reverse_cons, List.append_assoc, List.cons_append, List.nil_append] at h
  exact chn_rev (a := (xs.drop (k + 2)).reverse) (by simpa using h)
/-- what is known of the lists -/
def TgP (s : Ar) (xs : List Nat) (nx tg : Nat) : Prop := ∃ hd lk ls, Lst 4 64 s hd lk ls tg ∧ ls 3 = xs.reverse ∧ (∀ j, j ≠ 3 → ls j = []) ∧ tagF (hd 3) = tg ∧ (∀ b ∈ xs, b < nx) ∧ nx ≤ 60
theorem TgP.new : TgP (new9 133 512 false) [] 0 0 := ⟨_, _, _, Lst.new (K := 4) (M := 64) 133 512 false (by decide) (by decide), rfl, fun _ _ => rfl, rfl, fun _ h => by simp at h, by omega⟩
end Go.Proofs.Ytfljoedjnigfjaa
namespace Go.Proofs.Ytfljoedjnigfjaa
open Go.RowKit
open A9 (Ab ArAt ArMem FrA Ar rawA useA ptrA New9 new9 intsV SrcN own_kept own_base src_one isTab tab_lt own_cell own_form own_any row_new)
open H8 (HTab below_then)

def skP : Pl5 := ⟨3, 0, 12, 44, 76⟩
structure SkV (B : Ab) (W : World) (g lb ib : Nat) : Prop where
  lB : ¬ B.has lb
  iB : ¬ B.has ib
  lg : lb ≠ g
  ig : ib ≠ g
  il : ib ≠ lb
  lW : W.heap.size ≤ lb
  iW : W.heap.size ≤ ib
  lT : noT lb
  iT : noT ib
structure Sk (B : Ab) (W w : World) (s : Ar) (g lb ib : Nat) (ov : Nat → Value) (xs : Nat → List Nat) (inn : Nat → Bool) : Prop where
  wk : Wk B W w s g skP
  own : OwN B W w 12 ov fun i => basesF (xs i)
  lr : w.rowIs lb 29 12 ov
  ir : w.rowIs ib 30 32 fun b => .bool (inn b)
  nb : ∀ i, i < 12 → ∀ r, (ov i).ownBlock = some r → r ≠ g ∧ r ≠ lb ∧ r ≠ ib
def upB (f : Nat → Bool) (k : Nat) (v : Bool) : Nat → Bool := fun j => if j = k then v else f j
section
variable {B : Ab} {W w w' : World} {s s' : Ar} {g lb ib q : Nat} {ov : Nat → Value} {xs : Nat → List Nat} {inn : Nat → Bool}
theorem Sk.below (h : Sk B W w s g lb ib ov xs inn) (hb : Below w.heap.size w w') : Sk B W w' s g lb ib ov xs inn :=
  ⟨h.wk.below hb, h.own.below hb, h.lr.of_block (hb.block _ h.lr.lt), h.ir.of_block (hb.block _ h.ir.lt), h.nb⟩
theorem OwN.step {n : Nat} {xl : Nat → List Int} (h : OwN B W w n ov xl) (hF : FrS (fun k => B.has k ∨ k = q) w w') (hl : Below W.heap.size W w') (hq : ∀ i, i < n → (ov i).ownBlock ≠ some q) : OwN B W w' n ov xl :=
  ⟨fun i hi => own_kept (h.row i hi) fun r hr => hF.block r ((h.row i hi).lt r hr).2 fun hh => hh.elim (h.nb i hi r hr) fun e => hq i hi (by rw [hr, e]), h.ap, h.nb, hl, h.tb⟩
theorem Sk.step (h : Sk B W w s g lb ib ov xs inn) (hv : SkV B W g lb ib) (hW : Wk B W w' s' g skP) (hF : FrS (fun k => B.has k ∨ k = q) w w') (hq : ∀ i, i < 12 → (ov i).ownBlock ≠ some q) (hl : lb ≠ q) (hi : ib ≠ q) : Sk B W w' s' g lb ib ov xs inn :=
  ⟨hW, h.own.step hF hW.low hq, h.lr.of_block (hF.block _ h.lr.lt fun hh => hh.elim hv.lB hl), h.ir.of_block (hF.block _ h.ir.lt fun hh => hh.elim hv.iB hi), h.nb⟩
theorem Sk.arena (h : Sk B W w s g lb ib ov xs inn) (hv : SkV B W g lb ib) (hW : Wk B W w' s' g skP) (hF : FrA B w w') : Sk B W w' s' g lb ib ov xs inn :=
  ⟨hW, h.own.arena h.wk.own hF, h.lr.of_block (hF.block _ h.lr.lt hv.lB), h.ir.of_block (hF.block _ h.ir.lt hv.iB), h.nb⟩
theorem Sk.far (h : Sk B W w s g lb ib ov xs inn) (hq : w.heap.size ≤ q) : ∀ i, i < 12 → (ov i).ownBlock ≠ some q := fun i hi e => by have := ((h.own.row i hi).lt q e).2; omega
theorem Sk.cellL (h : Sk B W w s g lb ib ov xs inn) {k : Nat} (hk : k < 12) : w.cell? ⟨lb, k, none⟩ = some (ov k) := h.lr.cell hk
theorem Sk.cellI (h : Sk B W w s g lb ib ov xs inn) {b : Nat} (hb : b < 32) : w.cell? ⟨ib, b, none⟩ = some (.bool (inn b)) := h.ir.cell hb
theorem upX_bases (xs : Nat → List Nat) (k : Nat) (l : List Nat) : upX (fun i => basesF (xs i)) k (basesF l) = fun i => basesF (upLs xs k l i) := by
  funext j
  unfold upX upLs
  split <;> rfl
/-- a mark turned -/
theorem Sk.setI (h : Sk B W w s g lb ib ov xs inn) (hv : SkV B W g lb ib) (b : Nat) (v : Bool) : Sk B W (w.setCell ⟨ib, b, none⟩ (.bool v)) s g lb ib ov xs (upB inn b v) := by
  have hs : ∀ j, j ≠ ib → (w.setCell ⟨ib, b, none⟩ (.bool v)).heap[j]? = w.heap[j]? := fun j hj => Below.heap_setCell _ _ _ _ hj
  refine ⟨⟨h.wk.ar.setOther hv.iB hv.iT.1 hv.iT.2 b _, h.wk.low.setCell (p := ⟨ib, b, none⟩) hv.iW _, h.wk.own, (hs g (Ne.symm hv.ig)).trans h.wk.bx, h.wk.gB, h.wk.gW⟩, h.own.setOther (fun i hi e => (h.nb i hi ib e).2.2 rfl) hv.iW b _, h.lr.of_block (hs lb (Ne.symm hv.il)), (h.ir.set b _).congr fun j _ => ?_, h.nb⟩
  unfold upB
  split <;> rfl
/-- a row that took another's place -/
theorem setL' (hW : Wk B W w s g skP) (hlr : w.rowIs lb 29 12 ov) (hir : w.rowIs ib 30 32 fun b => .bool (inn b)) (hnb0 : ∀ i, i < 12 → ∀ r, (ov i).ownBlock = some r → r ≠ g ∧ r ≠ lb ∧ r ≠ ib) (hv : SkV B W g lb ib) {k : Nat} {v : Value} {l : List Nat} (hown : OwN B W w 12 (upV ov k v) (upX (fun i => basesF (xs i)) k (basesF l))) (hn : ∀ r, v.ownBlock = some r → r ≠ g ∧ r ≠ lb ∧ r ≠ ib) : Sk B W (w.setCell ⟨lb, k, none⟩ v) s g lb ib (upV ov k v) (upLs xs k l) inn := by
  have hs : ∀ j, j ≠ lb → (w.setCell ⟨lb, k, none⟩ v).heap[j]? = w.heap[j]? := fun j hj => Below.heap_setCell _ _ _ _ hj
  have hnb : ∀ i, i < 12 → ∀ r, (upV ov k v i).ownBlock = some r → r ≠ g ∧ r ≠ lb ∧ r ≠ ib := fun i hi r hr => by
    by_cases e : i = k
    · subst e
      rw [upV_same] at hr
      exact hn r hr
    · rw [upV_other _ _ e] at hr
      exact hnb0 i hi r hr
  rw [upX_bases] at hown
  refine ⟨⟨hW.ar.setOther hv.lB hv.lT.1 hv.lT.2 k _, hW.low.setCell (p := ⟨lb, k, none⟩) hv.lW _, hW.own, (hs g (Ne.symm hv.lg)).trans hW.bx, hW.gB, hW.gW⟩, hown.setOther (fun i hi e => (hnb i hi lb e).2.1 rfl) hv.lW k _, (hlr.set k _).congr fun j _ => ?_, hir.of_block (hs ib hv.il), hnb⟩
  unfold upV
  split <;> rfl
theorem Sk.setL (h : Sk B W w s g lb ib ov xs inn) (hv : SkV B W g lb ib) {k : Nat} {v : Value} {l : List Nat} (hown : OwN B W w 12 (upV ov k v) (upX (fun i => basesF (xs i)) k (basesF l))) (hn : ∀ r, v.ownBlock = some r → r ≠ g ∧ r ≠ lb ∧ r ≠ ib) : Sk B W (w.setCell ⟨lb, k, none⟩ v) s g lb ib (upV ov k v) (upLs xs k l) inn := setL' h.wk h.lr h.ir h.nb hv hown hn
/-- a row grows by one: ahead of its store -/
theorem Sk.app (ty : TypeId) (h : Sk B W w s g lb ib ov xs inn) (hv : SkV B W g lb ib) {k : Nat} (hk : k < 12) {ad : Option Addr} {cap : Nat} {x : Nat} (hs : SrcN w ad 1 [8 * (x : Int)]) (hn : (xs k).length ≤ 900) :
    ∃ v' w', (Builtin.append_ #[22, 22] ty #[ov k, .slice ad 1 cap]).run Try.prog w = .ok v' w' ∧ Sk B W (w'.setCell ⟨lb, k, none⟩ v') s g lb ib (upV ov k v') (upLs xs k (xs k ++ [x])) inn ∧ w'.rowIs lb 29 12 ov ∧ w'.rowIs ib 30 32 fun b => .bool (inn b) := by
  obtain ⟨v', w', hr, hA, ho, hb, hsz, hbk⟩ := h.own.grow ty h.wk.ar (k := k) hk (cap := cap) hs (by rw [basesF_len]; simp; omega)
  have hkb : ∀ j, j < w.heap.size → (∀ r, (ov k).ownBlock = some r → r ≠ j) → w'.heap[j]? = w.heap[j]? := fun j hj hne => hb j hj fun e => hne j e rfl
  have hg := hkb g h.wk.glt fun r hr2 => (h.nb k hk r hr2).1
  have hl := hkb lb h.lr.lt fun r hr2 => (h.nb k hk r hr2).2.1
  have hi := hkb ib h.ir.lt fun r hr2 => (h.nb k hk r hr2).2.2
  have hW : Wk B W w' s g skP := ⟨hA, ho.low, h.wk.own, hg.trans h.wk.bx, h.wk.gB, h.wk.gW⟩
  have hn : ∀ r, v'.ownBlock = some r → r ≠ g ∧ r ≠ lb ∧ r ≠ ib := fun r hr2 => by
    rcases hbk with e | e
    · exact h.nb k hk r (by rw [← e]; exact hr2)
    · rw [e] at hr2
      have e2 : w.heap.size = r := Option.some.inj hr2
      have := h.wk.glt
      have := h.lr.lt
      have := h.ir.lt
      exact ⟨by omega, by omega, by omega⟩
  have e : basesF (xs k ++ [x]) = basesF (xs k) ++ [8 * (x : Int)] := by simp [basesF]
  have hown : OwN B W w' 12 (upV ov k v') (upX (fun i => basesF (xs i)) k (basesF (xs k ++ [x]))) := by rw [e]; exact ho
  exact ⟨v', w', hr, setL' hW (h.lr.of_block hl) (h.ir.of_block hi) h.nb hv hown hn, h.lr.of_block hl, h.ir.of_block hi⟩
end
/-- what is known of the lists -/
def SkP (s : Ar) (xs : Nat → List Nat) (inn : Nat → Bool) (T : Nat) : Prop := ∃ hd lk ls, Lst 12 32 s hd lk ls T ∧ (∀ k, k < 12 → ls k = (xs k).reverse) ∧ ∀ b, b < 32 → (inn b = true ↔ ∃ k, k < 12 ∧ b ∈ xs k)
theorem SkP.new : SkP (new9 77 256 false) (fun _ => []) (fun _ => false) 0 := ⟨_, _, _, Lst.new (K := 12) (M := 32) 77 256 false (by decide) (by decide), fun _ _ => rfl, fun _ _ => by simp⟩
section
variable {s : Ar} {xs : Nat → List Nat} {inn : Nat → Bool} {T : Nat}
theorem SkP.lens (h : SkP s xs inn T) {k : Nat} (hk : k < 12) : (xs k).length ≤ 32 := by
  obtain ⟨hd, lk, ls, hL, he, -⟩ := h
  have := nodup_le 32 (ls k) (hL.L k hk).nd (hL.L k hk).lt
  rw [he k hk] at this
  simpa using this
theorem SkP.lt (h : SkP s xs inn T) {k b : Nat} (hk : k < 12) (hb : b ∈ xs k) : b < 32 := by
  obtain ⟨hd, lk, ls, hL, he, -⟩ := h
  exact (hL.L k hk).lt b (by rw [he k hk]; simpa using hb)
end
end Go.Proofs.Ytfljoedjnigfjaa
namespace Go.Proofs.Ytfljoedjnigfjaa
open Go.RowKit
open A9 (Ab ArAt ArMem FrA Ar rawA useA ptrA New9 new9 intsV SrcN own_kept own_base src_one isTab tab_lt own_cell own_form own_any row_new NAt)
open H8 (HTab below_then placeI placeI_bd place_any)

section
variable {s s' : Ar} {xs : Nat → List Nat} {inn : Nat → Bool} {T k b : Nat}
theorem upB_same (f : Nat → Bool) (k : Nat) (v : Bool) : upB f k v k = v := if_pos rfl
theorem upB_other (f : Nat → Bool) {k j : Nat} (v : Bool) (h : j ≠ k) : upB f k v j = f j := if_neg h
theorem SkP.push {hd' lk' : Nat → Int} {ls : Nat → List Nat} (hk : k < 12) (he : ∀ k, k < 12 → ls k = (xs k).reverse) (hi : ∀ b, b < 32 → (inn b = true ↔ ∃ k, k < 12 ∧ b ∈ xs k)) (hL : Lst 12 32 s' hd' lk' (upLs ls k (b :: ls k)) T) : SkP s' (upLs xs k (xs k ++ [b])) (upB inn b true) T := by
  refine ⟨_, _, _, hL, fun j hj => ?_, fun c hc => ?_⟩
  · by_cases e : j = k
    · subst e
      rw [upLs_same, upLs_same, he j hj]
      simp
    · rw [upLs_other _ _ e, upLs_other _ _ e]
      exact he j hj
  · by_cases e : c = b
    · subst e
      rw [upB_same]
      exact ⟨fun _ => ⟨k, hk, by rw [upLs_same]; simp⟩, fun _ => rfl⟩
    · rw [upB_other _ _ e, hi c hc]
      constructor
      · rintro ⟨j, hj, hm⟩
        refine ⟨j, hj, ?_⟩
        by_cases e2 : j = k
        · subst e2
          rw [upLs_same]
          exact List.mem_append_left _ hm
        · rw [upLs_other _ _ e2]
          exact hm
      · rintro ⟨j, hj, hm⟩
        refine ⟨j, hj, ?_⟩
        by_cases e2 : j = k
        · subst e2
          rw [upLs_same] at hm
          rcases List.mem_append.1 hm with h | h
          · exact h
          · simp at h
            exact absurd h e
        · rw [upLs_other _ _ e2] at hm
          exact hm
theorem SkP.pop {hd hd' lk lk' : Nat → Int} {ls : Nat → List Nat} {ys : List Nat} {T' : Nat} (hk : k < 12) (h0 : Lst 12 32 s hd lk ls T') (he : ∀ k, k < 12 → ls k = (xs k).reverse) (hi : ∀ b, b < 32 → (inn b = true ↔ ∃ k, k < 12 ∧ b ∈ xs k)) (hx : xs k = ys ++ [b]) (hL : Lst 12 32 s' hd' lk' (upLs ls k ys.reverse) T) : SkP s' (upLs xs k ys) (upB inn b false) T := by
  have hnd : b ∉ ys := by
    have h1 := (h0.L k hk).nd
    rw [he k hk, hx] at h1
    simp at h1
    exact h1.1
  have hbk : b ∈ ls k := by rw [he k hk, hx]; simp
  refine ⟨_, _, _, hL, fun j hj => ?_, fun c hc => ?_⟩
  · by_cases e : j = k
    · subst e
      rw [upLs_same, upLs_same]
    · rw [upLs_other _ _ e, upLs_other _ _ e]
      exact he j hj
  · by_cases e : c = b
    · subst e
      rw [upB_same]
      refine ⟨fun h => absurd h (by simp), ?_⟩
      rintro ⟨j, hj, hm⟩
      by_cases e2 : j = k
      · subst e2
        rw [upLs_same] at hm
        exact absurd hm hnd
      · rw [upLs_other _ _ e2] at hm
        exact absurd (show c ∈ ls j by rw [he j hj]; simpa using hm) (h0.two k j c hk hj (Ne.symm e2) hbk)
    · rw [upB_other _ _ e, hi c hc]
      constructor
      · rintro ⟨j, hj, hm⟩
        refine ⟨j, hj, ?_⟩
        by_cases e2 : j = k
        · subst e2
          rw [upLs_same]
          rw [hx] at hm
          rcases List.mem_append.1 hm with h | h
          · exact h
          · simp at h
            exact absurd h e
        · rw [upLs_other _ _ e2]
          exact hm
      · rintro ⟨j, hj, hm⟩
        refine ⟨j, hj, ?_⟩
        by_cases e2 : j = k
        · subst e2
          rw [upLs_same] at hm
          rw [hx]
          exact List.mem_append_left _ hm
        · rw [upLs_other _ _ e2] at hm
          exact hm
end
theorem sk_pl {g : Nat} {w : World} (h : plS g skP w) : w.cell? ⟨g, 0, none⟩ = some (.int .i64 3) ∧ w.cell? ⟨g, 1, none⟩ = some (.int .i64 0) ∧ w.cell? ⟨g, 2, none⟩ = some (.int .i64 12) ∧ w.cell? ⟨g, 3, none⟩ = some (.int .i64 44) ∧ w.cell? ⟨g, 4, none⟩ = some (.int .i64 76) := h
/-- all that holds at a round's head -/
def SkR (B : Ab) (W : World) (g lb ib T : Nat) (w : World) : Prop := ∃ s ov xs inn, Sk B W w s g lb ib ov xs inn ∧ SkP s xs inn T ∧ s.bad = false
theorem list_appS {B : Ab} {W w : World} {s : Ar} {g lb ib : Nat} {ov : Nat → Value} {xs : Nat → List Nat} {inn : Nat → Bool} {ops : Array Oper} {rest : List Oper} {o : Oper} {a : Act} {Q : Exit → Act → World → Prop} (hgd : o.guard = none) (x y : Operand)
    (ho : o.op = .call { callee := .builtin .append, args := #[x, y], argTypes := #[22, 22] }) (h : Sk B W w s g lb ib ov xs inn) (hv : SkV B W g lb ib) {k : Nat} (hk : k < 12) {ad : Option Addr} {cap : Nat} {z : Nat} {u : Value} (hu : ov k = u) (hx : a.eval x = u) (hy : a.eval y = .slice ad 1 cap) (hs : SrcN w ad 1 [8 * (z : Int)]) (hn : (xs k).length ≤ 900)
    (hK : ∀ va vn vc w', Sk B W (w'.setCell ⟨lb, k, none⟩ (.slice va vn vc)) s g lb ib (upV ov k (.slice va vn vc)) (upLs xs k (xs k ++ [z])) inn → w'.rowIs lb 29 12 ov → w'.rowIs ib 30 32 (fun b => .bool (inn b)) → wpList Try.prog ops Q rest (a.put o.dst (.slice va vn vc)) w') : wpList Try.prog ops Q (o :: rest) a w := by
  refine wpList_plain hgd fun K' hK' => ?_
  obtain ⟨v', w', hr, h2, h3, h4⟩ := h.app o.type hv hk (cap := cap) hs hn
  rw [hu] at hr
  have hf := h2.own.row k hk
  rw [upV_same] at hf
  obtain ⟨va, vc, rfl⟩ := own_any hf
  unfold Oper.wp execOp
  simp only [ho, resolve, invoke, builtin, Sem.run_bind, Sem.run_pure, Result.andThen_ok, List.map_toArray, List.map_cons, List.map_nil, hx, hy, hr]
  exact hK' _ _ (hK va _ vc w' h2 h3 h4)
theorem Sk.init {B : Ab} {W w2 : World} {s : Ar} {g : Nat} (h : Wk B W w2 s g skP) (hT : HTab W) :
    Sk B W ((w2.alloc (.cells (Array.replicate 12 (.slice none 0 0)) 29 (0, 0))).alloc (.cells (Array.replicate 32 (.bool false)) 30 (0, 0))) s g w2.heap.size (w2.heap.size + 1) (fun _ => .slice none 0 0) (fun _ => []) (fun _ => false) ∧ SkV B W g w2.heap.size (w2.heap.size + 1) := by
  have hz : (w2.alloc (.cells (Array.replicate 12 (.slice none 0 0)) 29 (0, 0))).heap.size = w2.heap.size + 1 := by simp
  have hr1 := row_new w2 (.slice none 0 0) 12 29 _ rfl
  have hr2 := row_new (w2.alloc (.cells (Array.replicate 12 (.slice none 0 0)) 29 (0, 0))) (.bool false) 32 30 _ rfl
  rw [hz] at hr2
  have hl1 : Below w2.heap.size w2 (w2.alloc (.cells (Array.replicate 12 (.slice none 0 0)) 29 (0, 0))) := (Below.refl _ _).alloc (Nat.le_refl _) _
  have hl2 : Below w2.heap.size w2 ((w2.alloc (.cells (Array.replicate 12 (.slice none 0 0)) 29 (0, 0))).alloc (.cells (Array.replicate 32 (.bool false)) 30 (0, 0))) := hl1.alloc hl1.size _
  have hlow := h.low.size
  have hg := h.glt
  refine ⟨⟨h.below hl2, ⟨fun _ _ => World.ownsRow_nil _ _ _ _, fun i j _ _ _ r hr => by simp [Value.ownBlock] at hr, fun i _ r hr => by simp [Value.ownBlock] at hr, below_then h.low hl2, tab_lt hT⟩, hr1.of_block (Below.heap_alloc _ _ _ (by rw [hz]; omega)), hr2, fun i _ r hr => by simp [Value.ownBlock] at hr⟩, ⟨fun hb => by have := h.ar.lt hb; omega, fun hb => by have := h.ar.lt hb; omega, by omega, by omega, by omega, by omega, by omega, noT_new hT hlow, noT_new hT (by omega)⟩⟩
theorem Sk.shrink {B : Ab} {W w : World} {s : Ar} {g lb ib : Nat} {ov : Nat → Value} {xs : Nat → List Nat} {inn : Nat → Bool} (h : Sk B W w s g lb ib ov xs inn) (hv : SkV B W g lb ib) {k r n cp : Nat} (hk : k < 12) (hov : ov k = .slice (some ⟨r, 0, none⟩) (n + 1) cp) {ys : List Nat} {d : Nat} (hx : xs k = ys ++ [d]) (hn : ys.length = n) :
    Sk B W (w.setCell ⟨lb, k, none⟩ (.slice (some ⟨r, 0, none⟩) n cp)) s g lb ib (upV ov k (.slice (some ⟨r, 0, none⟩) n cp)) (upLs xs k ys) inn := by
  have hb : (ov k).ownBlock = some r := by rw [hov]; rfl
  have ho := h.own.row k hk
  have hl : (basesF (xs k)).length = n + 1 := by rw [basesF_len, hx]; simp [hn]
  simp only [hl] at ho
  rw [hov] at ho
  have h2 := own_shrink ho (Nat.le_succ n)
  have e : (basesF (xs k)).take n = basesF ys := by rw [hx, ← hn]; simp [basesF]
  rw [e] at h2
  refine h.setL hv (h.own.put (by rw [basesF_len, hn]; exact h2) (fun i hi hne r' hr' => ?_) fun r' hr' => ?_) fun r' hr' => ?_
  · have e2 : r = r' := Option.some.inj hr'
    subst e2
    exact h.own.ap k i hk hi (Ne.symm hne) r hb
  · have e2 : r = r' := Option.some.inj hr'
    subst e2
    exact h.own.nb k hk r hb
  · have e2 : r = r' := Option.some.inj hr'
    subst e2
    exact h.nb k hk r hb
set_option maxHeartbeats 8000000 in
set_option maxRecDepth 8000 in
theorem stack_walk (ad : Option Addr) (len cap : Nat) (hl : len ≤ 9223372036854775807) (w : World) (hN : NAt w ad len) (hT : HTab w) : Calls Try.prog 3 #[.slice ad len cap] w fun e w' => e = .returned (.bool true) ∧ Below w.heap.size w w' := by
  have Pv := fun z wx => place_any z 1048576 wx (by omega) (by omega)
  have kR := fun wx => Raw_at (a := 3) (n := 256) skP 77 rfl rfl (by omega) (by omega) wx
  have kN := fun wx (hx : HTab wx) => A9.New_any 77 256 false wx hx
  have HP0 : Hid (SkP (new9 77 256 false) (fun _ => []) (fun _ => false) 0 ∧ (new9 77 256 false).bad = false) := ⟨SkP.new, rfl⟩
  have ka := fun wx (hx : HTab wx) => awake_any wx hx
  have HT : Hid (HTab w) := hT
  generalize new9 77 256 false = s0 at *
  clear hT
  unfold Pl5.v skP at kR
  go_enter Try.func3, Try.ntmps3
  go_wp2_with fail
  refine (kR _).mono ?_
  rintro e w1 ⟨rfl, hb1⟩
  go_wp2_with fail
  refine (kN _ (tab_new HT.out hb1)).mono ?_
  rintro e w2 ⟨B, rfl, hA2, hb2, hlB⟩
  have hW2 : Wk B w w2 s0 w1.heap.size skP := Wk.begin hb1 hA2 hb2 hlB
  clear hA2 hb2 hlB hb1 kR kN
  generalize w1.heap.size = g at *
  have HW2 : Hid (Wk B w w2 s0 g skP) := hW2
  clear hW2
  have HI := Sk.init HW2.out HT.out
  have HS0 : Hid (Sk B w ((w2.alloc (.cells (Array.replicate 12 (.slice none 0 0)) 29 (0, 0))).alloc (.cells (Array.replicate 32 (.bool false)) 30 (0, 0))) s0 g w2.heap.size (w2.heap.size + 1) (fun _ => .slice none 0 0) (fun _ => []) (fun _ => false)) := HI.1
  have HV0 : Hid (SkV B w g w2.heap.size (w2.heap.size + 1)) := HI.2
  clear HI HW2
  go_wp2_with fail
  obtain ⟨lb, hlb⟩ : ∃ n, Hid (n = w2.heap.size) := ⟨_, rfl⟩
  rw [← (hlb.out : lb = w2.heap.size)]
  have HV : Hid (SkV B w g lb (lb + 1)) := by have := HV0.out; rw [← (hlb.out : lb = w2.heap.size)] at this; exact this
  have HR0 : Hid (SkR B w g lb (lb + 1) 0 ((w2.alloc (.cells (Array.replicate 12 (.slice none 0 0)) 29 (0, 0))).alloc (.cells (Array.replicate 32 (.bool false)) 30 (0, 0)))) := ⟨s0, _, _, _, by have := HS0.out; rw [← (hlb.out : lb = w2.heap.size)] at this; exact this, HP0.out.1, HP0.out.2⟩
  clear HV0 HS0 HP0
  generalize lb + 1 = ib at *
  go_loopw [8] (fun iv wr => ∃ i : Nat, i ≤ 60 ∧ i ≤ len ∧ iv = .int .i64 i ∧ SkR B w g lb ib i wr) (fun iv _ => 60 - (intOf iv).toNat)
  case atStart => exact ⟨0, by omega, by omega, rfl, HR0.out⟩
  case round =>
    obtain ⟨i, hi, hil, rfl, s, ov, xs, inn, hS, hP, hbad⟩ := hrel
    clear HR0 hlb
    obtain ⟨wq, rfl⟩ : ∃ W, W = wr := ⟨wr, rfl⟩
    by_cases hlt : i < len ∧ i < 60
    · obtain ⟨hlt, hlt60⟩ := hlt
      obtain ⟨ab, ao, z, rfl, hc⟩ := hN.low hS.wk.low i hlt
      have HN : Hid (NAt w (some ⟨ab, ao, none⟩) len) := hN
      have hli : (i : Int) < (len : Int) := by omega
      have hli6 : (i : Int) < 60 := by omega
      obtain ⟨v1, v2⟩ := placeI_bd z 1048576 (by omega)
      have Pz := fun wx => Pv z wx
      generalize placeI z 1048576 = v at *
      obtain ⟨a, ha⟩ : ∃ a : Nat, v / 2 % 3 = a := ⟨(v / 2 % 3).toNat, by omega⟩
      obtain ⟨c, hcc⟩ : ∃ c : Nat, v / 6 % 4 = c := ⟨(v / 6 % 4).toNat, by omega⟩
      obtain ⟨b, hb⟩ : ∃ b : Nat, v / 24 % 32 = b := ⟨(v / 24 % 32).toNat, by omega⟩
      obtain ⟨k, hk⟩ : ∃ k : Nat, 4 * (a : Int) + (c : Int) = (k : Int) := ⟨4 * a + c, by omega⟩
      have ha3 : a < 3 := by omega
      have hc4 : c < 4 := by omega
      have hb32 : b < 32 := by omega
      have hk12 : k < 12 := by omega
      have HK : Hid (4 * (a : Int) + (c : Int) = (k : Int)) := hk
      obtain ⟨ev, hev⟩ : ∃ ev : Bool, decide (v % 2 = 0) = ev := ⟨_, rfl⟩
      have hcI := hS.cellI hb32
      clear hN
      go_upto_region 13 with (go_at_call 10; refine (Pz _).mono ?_; rintro e wq ⟨rfl, rfl⟩)
      go_cut [63] (fun cv wx => cv = .bool (ev && !inn b) ∧ wx = wq)
      case first =>
        cases ev with
        | false =>
          have h2 : ¬ v % 2 = 0 := by simpa using hev
          have h2b : (v % 2 == 0) = false := by simpa using h2
          go_wp2_with fail
          go_meet
          exact ⟨rfl, rfl⟩
        | true =>
          have h2 : v % 2 = 0 := by simpa using hev
          have h2b : (v % 2 == 0) = true := by simpa using h2
          have hbi : (b : Int) < 32 := by omega
          go_wp2_with fail
          go_meet
          exact ⟨rfl, rfl⟩
      case rest =>
        obtain ⟨rfl, rfl⟩ := hcut
        rw [ha, hcc, hb]
        obtain ⟨wq, rfl⟩ : ∃ W, W = wc := ⟨wc, rfl⟩
        obtain ⟨cd, hcd⟩ : ∃ cd, cd = (ev && !inn b) := ⟨_, rfl⟩
        rw [← hcd]
        have HC : Hid (cd = true → inn b = false) := fun h => by rw [hcd] at h; simp at h; exact h.2
        clear hcd hc hev Pz v1 v2 ha hcc hb hk hcI
        have hhd : headF skP (a : Int) (c : Int) = (k : Int) := by rw [headF_eq (K := 12) (p := skP) ⟨rfl, rfl⟩ (by omega) (by omega) (by omega) (by omega)]; exact HK.out
        have HH : Hid (headF skP (a : Int) (c : Int) = (k : Int)) := hhd
        have nx : ∀ wx, Calls Try.prog 12 #[.agg #[.int .i64 3, .int .i64 0, .int .i64 12, .int .i64 44, .int .i64 76], .int .i64 a, .int .i64 c, .int .i64 (8 * (b : Int))] wx (NewPuPost wx skP ((b : Int) + 1) k) := fun wx => by
          have h := NewPush_any skP a c (8 * (b : Int)) (by omega) (by omega) wx
          rw [hhd, show 8 * (b : Int) / 8 + 1 = (b : Int) + 1 by omega] at h
          exact h
        have ny : ∀ wx, Calls Try.prog 13 #[.agg #[.int .i64 3, .int .i64 0, .int .i64 12, .int .i64 44, .int .i64 76], .int .i64 a, .int .i64 c] wx (NewPoPost wx skP k) := fun wx => by
          have h := NewPop_any skP a c wx
          rw [hhd] at h
          exact h
        have hki : (k : Int) < 12 := by omega
        have hbi : (b : Int) < 32 := by omega
        clear hhd
        go_upto_if 63 with fail
        go_cut [] (fun wx => SkR B w g lb ib (i + 1) wx)
        case first =>
          obtain ⟨hd, lk, ls, hL, he, hi2⟩ := hP
          obtain ⟨c0, c1, c2, c3, c4⟩ := sk_pl hS.wk.pl
          have HL : Hid (Lst 12 32 s hd lk ls i ∧ (∀ k, k < 12 → ls k = (xs k).reverse) ∧ (∀ b, b < 32 → (inn b = true ↔ ∃ k, k < 12 ∧ b ∈ xs k)) ∧ s.bad = false ∧ (xs k).length ≤ 900) := ⟨hL, he, hi2, hbad, by have := SkP.lens ⟨hd, lk, ls, hL, he, hi2⟩ hk12; omega⟩
          have HS : Hid (Sk B w wq s g lb ib ov xs inn) := hS
          clear hL he hi2 hbad hS
          cases cd with
          | true =>
            have hib : Hid (inn b = false) := HC.out rfl
            clear ny
            go_wp2_with fail
            refine (nx _).mono ?_
            rintro e w3 ⟨q, rfl, hq3, hb3, lq⟩
            have hS3 := HS.out.below hb3
            have kp := doPushW (K := 12) (M := 32) (k := k) (b := b) hS3.wk HL.out.1 ⟨rfl, rfl⟩ (fun hb => by have := HS.out.wk.ar.lt hb; omega) (noT_new (HT.out.below HS.out.wk.low) lq) (by have := HS.out.wk.low.size; omega) (by have := HS.out.wk.glt; omega) hk12 hb32 (fun j hj h => by
              rw [HL.out.2.1 j hj] at h
              have := (HL.out.2.2.1 b hb32).2 ⟨j, hj, by simpa using h⟩
              rw [hib.out] at this
              cases this) (by omega) hq3
            have hfar := HS.out.far lq
            have hlq : lb ≠ q := by have := HS.out.lr.lt; omega
            have hiq : ib ≠ q := by have := HS.out.ir.lt; omega
            clear nx c0 c1 c2 c3 c4 hq3
            go_wp2_with fail
            refine kp.mono ?_
            rintro e w4 ⟨rfl, s4, -, hW4, hB4, hL4, hF4, -⟩
            have hS4 := hS3.step HV.out hW4 hF4 hfar hlq hiq
            have HP4 : Hid (SkP s4 (upLs xs k (xs k ++ [b])) (upB inn b true) (i + 1) ∧ s4.bad = false) := ⟨SkP.push hk12 HL.out.2.1 HL.out.2.2.1 hL4, hB4.trans HL.out.2.2.2.1⟩
            clear kp hS3 hW4 hB4 hL4 hF4 hfar hlq hiq lq hb3
            have cl := hS4.cellL hk12
            have HS4 : Hid (Sk B w w4 s4 g lb ib ov xs inn) := hS4
            clear hS4
            obtain ⟨ua, uc, hu⟩ := own_any (HS4.out.own.row k hk12)
            obtain ⟨un, hun⟩ : ∃ un, (basesF (xs k)).length = un := ⟨_, rfl⟩
            rw [hun] at hu
            have HU : Hid (ov k = .slice ua un uc) := hu
            clear hun
            rw [hu] at cl
            clear hu
            have hil := HV.out.il
            go_wp2_with (refine list_appS rfl _ _ rfl (HS4.out.below ((Below.refl _ _).alloc (Nat.le_refl _) _)) HV.out hk12 HU.out rfl rfl (src_one _ _) HL.out.2.2.2.2 ?_; intro va5 vn5 vc5 w5 hS5 hlr5 hir5; have cl5 : w5.cell? ⟨lb, k, none⟩ = some (.slice ua un uc) := (hlr5.cell hk12).trans (by rw [HU.out]); have fl5 : w5.frozen? ⟨lb, k, none⟩ = false := hlr5.frozen _; have HS5 : Hid (Sk B w (w5.setCell ⟨lb, k, none⟩ (.slice va5 vn5 vc5)) s4 g lb ib (upV ov k (.slice va5 vn5 vc5)) (upLs xs k (xs k ++ [b])) inn) := hS5; have ci5 := hS5.cellI hb32; have fi5 : (w5.setCell ⟨lb, k, none⟩ (.slice va5 vn5 vc5)).frozen? ⟨ib, b, none⟩ = false := hS5.ir.frozen _; clear hS5 hlr5 hir5)
            go_meet
            exact ⟨s4, _, _, _, HS5.out.setI HV.out b true, HP4.out.1, HP4.out.2⟩
          | false =>
            clear nx HC
            go_wp2_with fail
            refine (ny _).mono ?_
            rintro e w3 ⟨q, rfl, hq3, hb3, lq⟩
            have hS3 := HS.out.below hb3
            have hfar := HS.out.far lq
            have hlq : lb ≠ q := by have := HS.out.lr.lt; omega
            have hiq : ib ≠ q := by have := HS.out.ir.lt; omega
            have hn1 : ¬ B.has q := fun hb => by have := HS.out.wk.ar.lt hb; omega
            have hn2 := noT_new (HT.out.below HS.out.wk.low) lq
            have hn3 : w.heap.size ≤ q := by have := HS.out.wk.low.size; omega
            have hn4 : g ≠ q := by have := HS.out.wk.glt; omega
            clear ny c0 c1 c2 c3 c4 lq hb3
            rcases List.eq_nil_or_concat (xs k) with hx | ⟨ys, d, hx⟩
            · have kp := doPop0W (K := 12) (M := 32) (k := k) hS3.wk HL.out.1 hn1 hn2 hn3 hn4 hk12 (by rw [HL.out.2.1 k hk12, hx]; rfl) hq3
              have ho := hS3.own.row k hk12
              simp only [hx] at ho
              obtain ⟨la, lc, hov⟩ := own_any ho
              have HX : Hid (ov k = .slice la 0 lc) := hov
              clear hq3 ho hov hx
              go_wp2_with fail
              refine kp.mono ?_
              rintro e w4 ⟨rfl, s4, t4, -, hW4, hB4, hL4, hF4, hq4, -, hbt⟩
              have hS4 := hS3.step HV.out hW4 hF4 hfar hlq hiq
              have HP4 : Hid (SkP s4 xs inn (i + 1) ∧ s4.bad = false) := ⟨⟨_, _, _, hL4.wide (by omega), HL.out.2.1, HL.out.2.2.1⟩, hB4.trans HL.out.2.2.2.1⟩
              have kb := Base_any hq4
              rw [hbt] at kb
              have cl := hS4.cellL hk12
              rw [HX.out] at cl
              have HS4 : Hid (Sk B w w4 s4 g lb ib ov xs inn) := hS4
              clear kp hS3 hW4 hB4 hL4 hF4 hfar hlq hiq hq4 hbt hS4 hn1 hn2 hn3 hn4
              go_wp2_with fail
              refine kb.mono ?_
              rintro e w4 ⟨rfl, rfl⟩
              go_upto_region 21 with fail
              go_quiet (fail)
              go_wp2_with fail
              go_meet
              exact ⟨s4, _, _, _, HS4.out.below ⟨rfl, rfl, rfl, Nat.le_refl _, fun _ _ => rfl⟩, HP4.out.1, HP4.out.2⟩
            · rw [List.concat_eq_append] at hx
              have kp := doPopW (K := 12) (M := 32) (k := k) (b := d) (r := ys.reverse) hS3.wk HL.out.1 ⟨rfl, rfl⟩ hn1 hn2 hn3 hn4 hk12 (by rw [HL.out.2.1 k hk12, hx]; simp) (by omega) hq3
              obtain ⟨n, hn⟩ : ∃ n, ys.length = n := ⟨_, rfl⟩
              have hxl : (basesF (xs k)).length = n + 1 := by rw [basesF_len, hx]; simp [hn]
              have ho := hS3.own.row k hk12
              simp only [hxl] at ho
              obtain ⟨r, cp, hov, hcp, hcm⟩ := own_form ho (by omega)
              unfold maxLen at hcm
              rw [hov] at ho
              have cd3 : w3.cell? ⟨r, n, none⟩ = some (.int .i64 (8 * (d : Int))) := own_cell ho (by rw [hx]; simp [basesF, hn])
              have hd32 : d < 32 := (HL.out.1.L k hk12).lt d (by rw [HL.out.2.1 k hk12, hx]; simp)
              have HX : Hid (ov k = .slice (some ⟨r, 0, none⟩) (n + 1) cp ∧ xs k = ys ++ [d] ∧ ys.length = n) := ⟨hov, hx, hn⟩
              have hnl : (n : Int) ≤ 900 := by have := HL.out.2.2.2.2; rw [hx] at this; simp [hn] at this; omega
              clear hq3 ho hov hx hn hxl
              go_wp2_with fail
              refine kp.mono ?_
              rintro e w4 ⟨rfl, s4, t4, -, hW4, hB4, hL4, hF4, hq4, -, hbt⟩
              have hS4 := hS3.step HV.out hW4 hF4 hfar hlq hiq
              have HP4 : Hid (SkP s4 (upLs xs k ys) (upB inn d false) (i + 1) ∧ s4.bad = false) := ⟨SkP.pop hk12 HL.out.1 HL.out.2.1 HL.out.2.2.1 HX.out.2.1 hL4, hB4.trans HL.out.2.2.2.1⟩
              have kb := Base_any hq4
              rw [hbt] at kb
              have cl := hS4.cellL hk12
              rw [HX.out.1] at cl
              have hr4 := hS4.own.row k hk12
              simp only [show (basesF (xs k)).length = n + 1 by rw [basesF_len, HX.out.2.1]; simp [HX.out.2.2]] at hr4
              rw [HX.out.1] at hr4
              have cd4 : w4.cell? ⟨r, n, none⟩ = some (.int .i64 (8 * (d : Int))) := own_cell hr4 (by rw [HX.out.2.1]; simp [basesF, HX.out.2.2])
              have HS4 : Hid (Sk B w w4 s4 g lb ib ov xs inn) := hS4
              clear kp hS3 hW4 hB4 hL4 hF4 hfar hlq hiq hq4 hbt hS4 hn1 hn2 hn3 hn4 cd3 hr4
              go_wp2_with fail
              refine kb.mono ?_
              rintro e w4 ⟨rfl, rfl⟩
              have hn0 : (0 : Int) < ((n + 1 : Nat) : Int) := by omega
              have hn1 : ((n + 1 : Nat) : Int) - 1 = (n : Int) := by omega
              have hn2 : (n : Int) < ((n + 1 : Nat) : Int) := by omega
              have hw5 : IntKind.i64.wrap (n : Int) = n := by rw [IntKind.wrap_i64]; omega
              have hdi : (d : Int) < 32 := by omega
              have hd0 : (0 : Int) ≤ (d : Int) := by omega
              go_upto_region 21 with fail
              go_quiet (fail)
              have HS5 : Hid (Sk B w (w4.drewN nq) s4 g lb ib ov xs inn) := HS4.out.below ⟨rfl, rfl, rfl, Nat.le_refl _, fun _ _ => rfl⟩
              have ci : w4.cell? ⟨ib, d, none⟩ = some (.bool (inn d)) := HS4.out.cellI hd32
              have fi : (w4.drewN nq).frozen? ⟨ib, d, none⟩ = false := HS5.out.ir.frozen _
              have HS6 : Hid (Sk B w ((w4.drewN nq).setCell ⟨ib, d, none⟩ (.bool false)) s4 g lb ib ov xs (upB inn d false)) := HS5.out.setI HV.out d false
              go_upto_region 25 with fail
              clear cl cd4 ci fi HS4 HS5
              generalize (w4.drewN nq).setCell ⟨ib, d, none⟩ (.bool false) = w6 at *
              have cl : w6.cell? ⟨lb, k, none⟩ = some (.slice (some ⟨r, 0, none⟩) (n + 1) cp) := (HS6.out.cellL hk12).trans (by rw [HX.out.1])
              have fl : w6.frozen? ⟨lb, k, none⟩ = false := HS6.out.lr.frozen _
              have HS7 : Hid (Sk B w (w6.setCell ⟨lb, k, none⟩ (.slice (some ⟨r, 0, none⟩) n cp)) s4 g lb ib (upV ov k (.slice (some ⟨r, 0, none⟩) n cp)) (upLs xs k ys) (upB inn d false)) := HS6.out.shrink HV.out hk12 HX.out.1 HX.out.2.1 HX.out.2.2
              clear HS6
              go_region
              all_goals
                go_wp2_with fail
                go_meet
                exact ⟨s4, _, _, _, (by first | exact HS7.out | exact HS7.out.below (Below.refl _ _).drew), HP4.out.1, HP4.out.2⟩
        case rest =>
          clear hP hbad hS nx ny HC
          obtain ⟨s5, ov5, xs5, inn5, hS5, hP5, hbad5⟩ := hcut
          obtain ⟨w5, rfl⟩ : ∃ W, W = wc := ⟨wc, rfl⟩
          obtain ⟨hd, lk, ls, hL, he, hi2⟩ := hP5
          obtain ⟨n, hn⟩ : ∃ n, (xs5 k).length = n := ⟨_, rfl⟩
          have hn900 : (n : Int) ≤ 900 := by have := SkP.lens ⟨hd, lk, ls, hL, he, hi2⟩ hk12; omega
          have kl := ListW (K := 12) (M := 32) (k := k) (a := a) (c := c) (l := (xs5 k).reverse) hS5.wk hL ⟨rfl, rfl⟩ hk12 HH.out (by omega) (he k hk12)
          obtain ⟨c0, c1, c2, c3, c4⟩ := sk_pl hS5.wk.pl
          have HL : Hid ((∀ k, k < 12 → ls k = (xs5 k).reverse) ∧ (∀ b, b < 32 → (inn5 b = true ↔ ∃ k, k < 12 ∧ b ∈ xs5 k)) ∧ s5.bad = false ∧ (xs5 k).length = n ∧ Sk B w w5 s5 g lb ib ov5 xs5 inn5) := ⟨he, hi2, hbad5, hn, hS5⟩
          clear hL he hi2 hbad5 hn hS5
          go_wp2_with fail
          refine kl.mono ?_
          rintro e w6 ⟨mv, s6, rfl, hW6, hB6, hL6, hM6⟩
          have hS6 := HL.out.2.2.2.2.arena HV.out hW6 hM6.fr
          have HR6 : Hid (SkR B w g lb ib (i + 1) w6) := ⟨s6, ov5, xs5, inn5, hS6, ⟨_, _, _, hL6, HL.out.1, HL.out.2.1⟩, hB6.trans HL.out.2.2.1⟩
          have hm := hM6.row
          rw [basesF_len, List.length_reverse, HL.out.2.2.2.1] at hm
          obtain ⟨ma, mc, rfl⟩ := own_any hm
          have ho := hS6.own.row k hk12
          simp only [basesF_len, HL.out.2.2.2.1] at ho
          obtain ⟨oa, oc, hov⟩ := own_any ho
          rw [hov] at ho
          have cl := hS6.cellL hk12
          rw [hov] at cl
          have HM : Hid (w6.ownsRow w5.heap.size 3 1 (.slice ma n mc) n (intsV (basesF (xs5 k).reverse)) ∧ w6.ownsRow w.heap.size 3 1 (.slice oa n oc) n (intsV (basesF (xs5 k))) ∧ (xs5 k).length = n ∧ w6.cell? ⟨lb, k, none⟩ = some (.slice oa n oc)) := ⟨hm, ho, HL.out.2.2.2.1, cl⟩
          clear kl hW6 hB6 hL6 hM6 hm ho hov HL c0 c1 c2 c3 c4 hS6
          go_wp2_with fail
          go_loopw [18] (fun jv wr => ∃ j : Nat, j ≤ n ∧ jv = .int .i64 j ∧ Below w6.heap.size w6 wr) (fun jv _ => n - (intOf jv).toNat)
          case atStart => exact ⟨0, by omega, rfl, Below.refl _ _⟩
          case round =>
            obtain ⟨j, hj, rfl, hb⟩ := hrel
            obtain ⟨wj, rfl⟩ : ∃ W, W = wr := ⟨wr, rfl⟩
            by_cases hjn : j < n
            · obtain ⟨hm, ho, hxn, -⟩ := HM.out
              have hm2 := own_kept hm fun r hr => hb.block r (hm.lt r hr).2
              have ho2 := own_kept ho fun r hr => hb.block r (ho.lt r hr).2
              obtain ⟨mr, mp, e1, hm3, hm4⟩ := own_form hm2 (by omega)
              cases e1
              obtain ⟨or_, op, e2, ho3, ho4⟩ := own_form ho2 (by omega)
              cases e2
              have cl2 : wj.cell? ⟨lb, k, none⟩ = some (.slice (some ⟨or_, 0, none⟩) n oc) := (hb.cell (p := ⟨lb, k, none⟩) (block_lt_of_cell HM.out.2.2.2)).trans HM.out.2.2.2
              obtain ⟨t, ht⟩ : ∃ t : Nat, (n : Int) - 1 - (j : Int) = (t : Int) := ⟨n - 1 - j, by omega⟩
              have htn : t < (xs5 k).length := by omega
              have hjr : j < (xs5 k).reverse.length := by simp; omega
              have er : (xs5 k).reverse[j] = (xs5 k)[t] := by
                rw [List.getElem_reverse]
                congr 1
                omega
              have cm : wj.cell? ⟨mr, j, none⟩ = some (.int .i64 (8 * ((xs5 k)[t] : Int))) := own_cell hm2 (by rw [← er]; simp only [basesF, List.getElem?_map, List.getElem?_eq_getElem hjr, Option.map_some])
              have co : wj.cell? ⟨or_, t, none⟩ = some (.int .i64 (8 * ((xs5 k)[t] : Int))) := own_cell ho2 (by simp only [basesF, List.getElem?_map, List.getElem?_eq_getElem htn, Option.map_some])
              generalize (xs5 k)[t] = y at *
              have hji : (j : Int) < (n : Int) := by omega
              have hti : (t : Int) < (n : Int) := by omega
              have ht0 : (0 : Int) ≤ (t : Int) := by omega
              have hwt : IntKind.i64.wrap (t : Int) = t := by rw [IntKind.wrap_i64]; omega
              have hwn : IntKind.i64.wrap ((n : Int) - 1) = (n : Int) - 1 := by rw [IntKind.wrap_i64]; omega
              have HB : Hid (Below w6.heap.size w6 wj) := hb
              clear hm ho hm2 ho2 hb er htn hjr HM cl
              go_upto_region 32 with fail
              go_quiet (fail)
              go_wp2_with fail
              go_roundw
              case rel => exact ⟨j + 1, by omega, by go_num, ⟨HB.out.os, HB.out.tape, HB.out.output, HB.out.size, HB.out.block⟩⟩
              case measure => simp [intOf]; omega
            · have hji : ¬ (j : Int) < (n : Int) := by omega
              have HE : Hid (SkR B w g lb ib (i + 1) wj) := by
                obtain ⟨s6, o6, x6, i6, h1, h2⟩ := HR6.out
                exact ⟨s6, o6, x6, i6, h1.below hb, h2⟩
              clear hb HM cl HR6
              go_wp2_with fail
              go_roundw
              case rel => exact ⟨i + 1, by omega, by omega, by go_num, HE.out⟩
              case measure => simp [intOf]; omega
    · have HE : Hid (Below w.heap.size w wq ∧ HTab wq) := ⟨hS.wk.low, HT.out.below hS.wk.low⟩
      have kf := A9.Fault_any hS.wk.ar
      rw [hbad] at kf
      clear hS hP
      by_cases h1 : i < len
      · have h1i : (i : Int) < (len : Int) := by omega
        have h2i : ¬ (i : Int) < 60 := by omega
        have h2d : decide ((i : Int) < 60) = false := by simpa using h2i
        go_wp2_with fail
        refine kf.mono ?_
        rintro e wq ⟨rfl, rfl⟩
        go_wp2_with fail
        refine (ka _ HE.out.2).mono ?_
        rintro e w4 ⟨rfl, hb4⟩
        go_wp2_with fail
        go_ret
        exact ⟨rfl, below_then HE.out.1 hb4⟩
      · have h1i : ¬ (i : Int) < (len : Int) := by omega
        have h1d : decide ((i : Int) < (len : Int)) = false := by simpa using h1i
        go_wp2_with fail
        refine kf.mono ?_
        rintro e wq ⟨rfl, rfl⟩
        go_wp2_with fail
        refine (ka _ HE.out.2).mono ?_
        rintro e w4 ⟨rfl, hb4⟩
        go_wp2_with fail
        go_ret
        exact ⟨rfl, below_then HE.out.1 hb4⟩
end Go.Proofs.Ytfljoedjnigfjaa
