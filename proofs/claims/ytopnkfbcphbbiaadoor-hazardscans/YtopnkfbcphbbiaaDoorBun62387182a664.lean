/-
  Helpers: Zd, Ze, Zf.
-/
import Derived.Test.YtopnkfbcphbbiaaDoorBun3e9ffec32249
import Derived.Test.YtopnkfbcphbbiaaDoorBunb505eccc263c
import Derived.Test.YtopnkfbcphbbiaaDoorBun7d57e226f0c7
import Derived.Test.YtopnkfbcphbbiaaDoorBun0e4cda553716
namespace Go.Proofs.YtopnkfbcphbbiaaDoor
open Go.RowKit
open H8 (okP sizeF HTab below_then packV packF isH)
open A9 (Ab ArAt ArMem FrA Ar rawA setRawA useA ptrA Ok9 MapI But SrcN Left9)
open F0 (Pl5 Tn PuAt PoAt FrS noT plBox plS plS_of below_next Wk Pu Po upO)
open S1 (RowO MAt Mc FeM FeR stepF grN clN PlS)

/-- where a table's words stand, how many workers, whose lists -/
structure Tb where
  a : Nat
  tw : Nat
  wk : Nat
/-- what of a scan turns -/
structure Sc where
  lk : Nat
  sn : List Int
  hs : List Int
  lf : List Int
  fr : Option Pu
/-- its blocks -/
structure Sb where
  q : Nat
  m : Nat
  hv : Value
  lv : Value
  fb : Option (Nat × Nat)
def fbV : Option (Nat × Nat) → Value
  | none => .pointer none
  | some x => .pointer (some ⟨x.1, 0, none⟩)
def scB (p : Pl5) (t : Tb) (lk : Nat) (b : Sb) : Array Value := #[.int .i64 (t.tw : Int), .int .i64 (t.a : Int), .int .i64 p.wk, .int .i64 p.hd, .int .i64 p.ln, .int .i64 p.gn, .int .i64 p.cv, .int .i64 (t.wk : Int), .int .i64 (lk : Int), .map (some b.m), b.hv, b.lv, fbV b.fb]
def snF (l : List Int) (k : Int) : Option Value := if k ∈ l then some (.agg #[]) else none
def scK (b : Sb) : Nat → Option Nat
  | 0 => some b.q
  | 1 => some b.m
  | 2 => b.hv.ownBlock
  | 3 => b.lv.ownBlock
  | 4 => b.fb.map (·.1)
  | 5 => b.fb.map (·.2)
  | _ => none
structure ScM (B : Ab) (base : Nat) (w : World) (p : Pl5) (t : Tb) (sc : Sc) (b : Sb) : Prop where
  bx : w.heap[b.q]? = some (.cells (scB p t sc.lk b) 72 (0, 0))
  mp : ∃ n, MapI w b.m (snF sc.sn) n
  hr : RowO w base b.hv sc.hs
  lr : RowO w base b.lv sc.lf
  fN : sc.fr = none → b.fb = none
  fS : ∀ m, sc.fr = some m → ∃ f y, b.fb = some (f, y) ∧ ∃ h tl, sc.hs = h :: tl ∧ MAt B f y w p (.free h (4 * t.wk + clN h) m)
  inj : ∀ i j x, scK b i = some x → scK b j = some x → i = j
  lo : ∀ i x, scK b i = some x → base ≤ x ∧ x < w.heap.size ∧ ¬ B.has x
  nt : ∀ x, base ≤ x → noT x
/-- a scan's frame: the arena's blocks, and what is as new as the scan -/
def FrB (B : Ab) (base : Nat) (w w' : World) : Prop := FrS (fun k => B.has k ∨ base ≤ k) w w'
section
variable {B : Ab} {base : Nat} {w w' : World} {p : Pl5} {t : Tb} {sc : Sc} {b : Sb} {s : Ar}
theorem ScM.cell (h : ScM B base w p t sc b) (i : Nat) : w.cell? ⟨b.q, i, none⟩ = (scB p t sc.lk b)[i]? := cell_of_row _ _ _ _ _ _ h.bx
theorem ScM.frozen (h : ScM B base w p t sc b) (i : Nat) : w.frozen? ⟨b.q, i, none⟩ = false := frozen_of_row w _ i _ _ h.bx
theorem ScM.keep (h : ScM B base w p t sc b) (hs : w.heap.size ≤ w'.heap.size) (hk : ∀ i x, scK b i = some x → w'.heap[x]? = w.heap[x]?) : ScM B base w' p t sc b := by
  obtain ⟨n, hn⟩ := h.mp
  refine ⟨(hk 0 _ rfl).trans h.bx, ⟨n, hn.same (hk 1 _ rfl)⟩, h.hr.kept fun g hg => hk 2 g hg, h.lr.kept fun g hg => hk 3 g hg, h.fN, fun m hm => ?_, h.inj, fun i x hx => ?_, h.nt⟩
  · obtain ⟨f, y, e, hd, tl, e2, hM⟩ := h.fS m hm
    exact ⟨f, y, e, hd, tl, e2, hM.kept (hk 4 f (by show b.fb.map _ = _; rw [e]; rfl)) (hk 5 y (by show b.fb.map _ = _; rw [e]; rfl))⟩
  · obtain ⟨a1, a2, a3⟩ := h.lo i x hx
    exact ⟨a1, by omega, a3⟩
theorem ScM.arena (h : ScM B base w p t sc b) (hF : FrA B w w') : ScM B base w' p t sc b := h.keep hF.size fun i x hx => hF.block x (h.lo i x hx).2.1 (h.lo i x hx).2.2
theorem ScM.below (h : ScM B base w p t sc b) (hb : Below w.heap.size w w') : ScM B base w' p t sc b := h.keep hb.size fun i x hx => hb.block x (h.lo i x hx).2.1
theorem FrB.refl (B : Ab) (base : Nat) (w : World) : FrB B base w w := FrS.refl _ _
theorem FrB.trans {w2 : World} (h : FrB B base w w') (k : FrB B base w' w2) : FrB B base w w2 := FrS.trans h k
theorem FrB.arena (h : FrA B w w') : FrB B base w w' := (FrS.of_arena (S := B.has) h fun _ hk => hk).wide fun _ hk => .inl hk
theorem FrB.below (h : Below w.heap.size w w') : FrB B base w w' := FrS.of_below h
theorem Word_any (tw a x i k : Int) (hk : wrap64 (wrap64 (a + wrap64 (2 * x)) + i) = k) (w : World) : Calls Tryd.prog 12 #[.agg #[.int .i64 tw, .int .i64 a], .int .i64 x, .int .i64 i] w fun e w' => e = .returned (.int .i64 k) ∧ Below w.heap.size w w' := by
  subst hk
  have hb : Below w.heap.size w (w.alloc (.cells #[.int .i64 tw, .int .i64 a] 28 (0, 0))) := (Below.refl _ _).alloc (Nat.le_refl _) _
  go_enter Tryd.func12, Tryd.ntmps12
  go_wp2_with fail
  go_ret
  exact ⟨rfl, hb⟩
theorem HRaw_any (work a : Nat) (h1 : work ≤ 1000) (w : World) : Calls Tryd.prog 22 #[.int .i64 (work : Int), .int .i64 (a : Int)] w fun e w' => e = .returned (.tuple #[.agg #[.int .i64 (work : Int), .int .i64 (a : Int)], .int .i64 ((2 * work : Nat) : Int)]) ∧ Below w.heap.size w w' := by
  have hw : wrap64 (2 * (work : Int)) = ((2 * work : Nat) : Int) := A9.wr64_id (by omega) (by omega)
  have hm : max (work : Int) 0 = (work : Int) := by omega
  go_enter Tryd.func22, Tryd.ntmps22
  go_wp2_with fail
  refine bodyPost_ret (v := .tuple #[.agg #[.int .i64 (work : Int), .int .i64 (a : Int)], .int .i64 ((2 * work : Nat) : Int)]) ?_ rfl ⟨rfl, ?_⟩
  · simp [results, Tryd.results22, go_sem]
  · repeat (first | exact Below.refl _ _ | refine Below.drew ?_ | refine Below.alloc ?_ (by simp; try omega) _ | refine Below.setCell ?_ (by simp; try omega) _)
theorem looking_any (h : ScM B base w p t sc b) (hl : sc.lk ≤ 1000000) : Calls Tryd.prog 35 #[.pointer (some ⟨b.q, 0, none⟩)] w fun e w' => e = .returned (.bool (decide (sc.lk < 2 * t.tw))) ∧ Below w.heap.size w w' := by
  have c0 := h.cell 0
  have c8 := h.cell 8
  simp only [scB] at c0 c8
  have hd : decide (wrap64 ((sc.lk : Int) / 2) < (t.tw : Int)) = decide (sc.lk < 2 * t.tw) := by
    rw [A9.wr64_id (by omega) (by omega)]
    by_cases e : sc.lk < 2 * t.tw
    · simp only [e]
      simp
      omega
    · simp only [e]
      simp
      omega
  clear h hl
  generalize sc.lk = lk at *
  generalize t.tw = tw at *
  go_enter Tryd.func35, Tryd.ntmps35
  go_wp2_with fail
  go_quiet (fail)
  go_wp2_with fail
  go_ret
  exact ⟨rfl, rfl, rfl, rfl, Nat.le_refl _, fun _ _ => rfl⟩
theorem ended_any (h : ScM B base w p t sc b) (hl : sc.lk ≤ 1000000) : Calls Tryd.prog 37 #[.pointer (some ⟨b.q, 0, none⟩)] w fun e w' => e = .returned (.bool (!decide (sc.lk < 2 * t.tw) && sc.hs.isEmpty)) ∧ Below w.heap.size w w' := by
  have k := looking_any h hl
  obtain ⟨oa, oc, hv⟩ := h.hr.len
  have c10 := fun wx (hb : Below w.heap.size w wx) => (h.below hb).cell 10
  simp only [scB] at c10
  rw [hv] at c10
  have he : sc.hs.isEmpty = decide ((sc.hs.length : Int) = 0) := by
    cases sc.hs with
    | nil => rfl
    | cons x l =>
      simp
      omega
  rw [he]
  clear h hl hv he
  generalize sc.hs.length = n at *
  generalize decide (sc.lk < 2 * t.tw) = d at *
  go_enter Tryd.func37, Tryd.ntmps37
  go_wp2_with fail
  refine k.mono ?_
  rintro e w1 ⟨rfl, hb⟩
  have c := c10 _ hb
  cases d with
  | true =>
    go_wp2_with fail
    go_ret
    exact ⟨rfl, hb⟩
  | false =>
    go_wp2_with fail
    go_ret
    exact ⟨rfl, hb⟩
theorem eq_nil (w : World) : (binOp .eql 22 (.slice none 0 0) (.slice none 0 0)).run Tryd.prog w = .ok (.bool true) w := by kernel_rfl
theorem eq_some (a : Addr) (n c : Nat) (w : World) : (binOp .eql 22 (.slice (some a) n c) (.slice none 0 0)).run Tryd.prog w = .ok (.bool false) w := by kernel_rfl
theorem own_zero (w : World) : (w.alloc (.cells #[] 3 (0, 0))).ownsRow w.heap.size 3 1 (.slice (some ⟨w.heap.size, 0, none⟩) 0 0) 0 [] :=
  ⟨rfl, .inr ⟨w.heap.size, 0, #[], rfl, Nat.le_refl _, (Go.MapKept.heap_alloc w _).1, Nat.le_refl _, Nat.zero_le _, by simp, by simp⟩⟩
/-- all of a row behind an empty one of the call's own -/
theorem list_cp {W : World} {bs : Nat} {ops : Array Oper} {rest : List Oper} {o : Oper} {a : Act} {Q : Exit → Act → World → Prop} (hgd : o.guard = none) (x y : Operand)
    (ho : o.op = .call { callee := .builtin .append, args := #[x, y], argTypes := #[22, 22] }) {v : Value} (hx : a.eval x = v) (hrow : W.ownsRow bs 3 1 v 0 []) (hb : bs ≤ W.heap.size) {ad : Addr} {cap : Nat} {l : List Int} (hy : a.eval y = .slice (some ad) l.length cap) (hc : ∀ j u, (A9.intsV l)[j]? = some u → W.cell? (ad.add j) = some u) (hn : l.length ≤ 100000)
    (hK : ∀ v' w', RowO w' bs v' l → (∀ k, k < bs → w'.heap[k]? = W.heap[k]?) → W.heap.size ≤ w'.heap.size → w'.os = W.os → w'.tape = W.tape → w'.output = W.output → wpList Tryd.prog ops Q rest (a.put o.dst v') w') : wpList Tryd.prog ops Q (o :: rest) a W := by
  refine wpList_plain hgd fun K' hK' => ?_
  obtain ⟨i, hi, hz, hz1, hz2⟩ := A9.infoInt
  obtain ⟨v', w', hr, o1, o2, -, o3⟩ := run_append_own_at (P := Tryd.prog) W bs 22 o.type 3 i (.int .i64 0) 1 8 Tryd.underlying22 hi hz hz1 hz2 rfl (by decide) v 0 [] hrow ad l.length cap (A9.intsV l) (by simp [A9.intsV]) hc A9.intsV_one (by unfold maxLen; omega) (by omega) hb
  unfold Oper.wp execOp
  simp only [ho, resolve, invoke, builtin, Sem.run_bind, Sem.run_pure, Result.andThen_ok, List.map_toArray, List.map_cons, List.map_nil, hx, hy, hr]
  exact hK' _ _ (hK v' w' (RowO.of_own (n := l.length) (by simpa [A9.intsV] using o1) rfl) (fun k hk => o2.block k (by omega) fun e => by have := (hrow.lt k e.symm).1; omega) o2.size o2.os o2.tape o2.output)
set_option maxRecDepth 4000 in
/-- a copy of a row -/
theorem clone_any {v : Value} {l : List Int} {b0 : Nat} (h : RowO w b0 v l) (hl : l.length ≤ 100000) : Calls Tryd.prog 34 #[v] w fun e w' => ∃ v', e = .returned v' ∧ RowO w' w.heap.size v' l ∧ Below w.heap.size w w' := by
  by_cases hnil : v = .slice none 0 0
  · subst hnil
    have hl0 : l = [] := by
      rcases h with ⟨-, h⟩ | ⟨r, off, cap, cur, h1, -⟩
      · exact h
      · cases h1
    subst hl0
    clear h hl
    have hq := eq_nil w
    go_enter Tryd.func34, Tryd.ntmps34
    go_wp2_with fail
    go_ret
    exact ⟨_, rfl, RowO.nil _ _, Below.refl _ _⟩
  · rcases h with ⟨h, -⟩ | ⟨r, off, cap, cur, rfl, h1, h2, h3, h4, h5, h6⟩
    · exact absurd h hnil
    · have hq := eq_some ⟨r, off, none⟩ l.length cap w
      go_enter Tryd.func34, Tryd.ntmps34
      have hlt := lt_of_block h2
      go_wp2_with (refine list_cp rfl _ _ rfl rfl (own_zero w) (by simp) rfl ?_ hl ?_)
      · intro j u hu
        rw [Addr.add_lit, cell_of_row _ _ _ _ _ _ ((Below.heap_alloc _ _ _ hlt).trans h2)]
        rw [A9.intsV, List.getElem?_map] at hu
        obtain ⟨y, hy, rfl⟩ := Option.map_eq_some_iff.1 hu
        exact h6 j y hy
      · intro v' w' x1 x2 x3 x4 x5 x6
        go_wp2_with fail
        go_ret
        exact ⟨_, rfl, x1, ⟨x4, x5, x6, Nat.le_trans (by simp) x3, fun k hk => (x2 k hk).trans (Below.heap_alloc _ _ _ hk)⟩⟩
end
end Go.Proofs.YtopnkfbcphbbiaaDoor
namespace Go.Proofs.YtopnkfbcphbbiaaDoor
open Go.RowKit
open H8 (okP sizeF HTab below_then packV packF isH)
open A9 (Ab ArAt ArMem FrA Ar rawA setRawA useA ptrA Ok9 MapI But SrcN Left9 isTab htab_keep upF)
open F0 (Pl5 Tn PuAt PoAt FrS noT plBox plS plS_of below_next Wk Pu Po upO)
open S1 (RowO MAt Mc FeM FeR stepF grN clN PlS)

/-- the arena, and the package's tables, are elder than the scan -/
structure Old (B : Ab) (base : Nat) : Prop where
  ar : ∀ k, B.has k → k < base
  tb : ∀ k, isTab k → k < base
section
variable {B : Ab} {base : Nat} {w w' : World} {p : Pl5} {t : Tb} {sc : Sc} {b : Sb} {s : Ar}
theorem FrB.ar (h : FrB B base w w') (hO : Old B base) (hb : base ≤ w.heap.size) (hA : ArAt B w s) (hk : ∀ k, B.has k → w'.heap[k]? = w.heap[k]?) : ArAt B w' s :=
  ⟨hA.toArMem.same hk (htab_keep hA.tab fun k hk2 => by
    have hlt := hO.tb k hk2
    by_cases e : B.has k
    · exact hk k e
    · exact h.block k (by omega) fun hh => hh.elim e (fun e2 => by omega)), hA.ok⟩
theorem FrB.setCell (h : FrB B base w w') {g : Nat} (hg : base ≤ g) (i : Nat) (v : Value) : FrB B base w (w'.setCell ⟨g, i, none⟩ v) := FrS.setCell h (.inr hg) i v
theorem ar_set (hA : ArAt B w s) (hO : Old B base) (hb : base ≤ w.heap.size) {g : Nat} (hg : base ≤ g) (i : Nat) (v : Value) : ArAt B (w.setCell ⟨g, i, none⟩ v) s :=
  FrB.ar (FrB.setCell (FrB.refl B base w) hg i v) hO hb hA fun k hk => Below.heap_setCell _ _ _ _ (fun e => by have := hO.ar k hk; have e2 : k = g := e; omega)
theorem FrB.but {g : Nat} (h : But g w w') (hg : base ≤ g) : FrB B base w w' := ⟨h.os, h.tape, h.output, by rw [h.size]; exact Nat.le_refl _, fun k _ hk => h.block k fun e => hk (.inr (by omega))⟩
theorem ar_but (hA : ArAt B w s) (hO : Old B base) (hb : base ≤ w.heap.size) {g : Nat} (h : But g w w') (hg : base ≤ g) : ArAt B w' s :=
  FrB.ar (FrB.but h hg) hO hb hA fun k hk => h.block k (by have := hO.ar k hk; omega)
/-- another scan's state at another world: its box, its map, its rows, its free as told -/
theorem ScM.turn (h : ScM B base w p t sc b) {sc' : Sc} {b' : Sb} (_ : w.heap.size ≤ w'.heap.size) (e1 : b'.q = b.q) (e2 : b'.m = b.m) (hbx : w'.heap[b.q]? = some (.cells (scB p t sc'.lk b') 72 (0, 0))) (hmp : ∃ n, MapI w' b.m (snF sc'.sn) n) (hr : RowO w' base b'.hv sc'.hs) (lr : RowO w' base b'.lv sc'.lf) (fN : sc'.fr = none → b'.fb = none)
    (fS : ∀ m, sc'.fr = some m → ∃ f y, b'.fb = some (f, y) ∧ ∃ h tl, sc'.hs = h :: tl ∧ MAt B f y w' p (.free h (4 * t.wk + clN h) m)) (hl : ∀ j x, scK b' j = some x → base ≤ x ∧ x < w'.heap.size ∧ ¬ B.has x) (hj : ∀ i j x, scK b' i = some x → scK b' j = some x → i = j) : ScM B base w' p t sc' b' :=
  ⟨by rw [e1]; exact hbx, by rw [e2]; exact hmp, hr, lr, fN, fS, hj, hl, h.nt⟩
/-- looked at one more -/
theorem ScM.setLk (h : ScM B base w p t sc b) (n : Nat) : ScM B base (w.setCell ⟨b.q, 8, none⟩ (.int .i64 (n : Int))) p t { sc with lk := n } b := by
  have hk : ∀ i x, i ≠ 0 → scK b i = some x → (w.setCell ⟨b.q, 8, none⟩ (.int .i64 (n : Int))).heap[x]? = w.heap[x]? := fun i x hi hx => Below.heap_setCell _ _ _ _ (fun e => hi (h.inj i 0 x hx (by have e2 : x = b.q := e; rw [e2]; rfl)))
  obtain ⟨m, hm⟩ := h.mp
  refine h.turn (by simp) rfl rfl (heap_setCell_same _ _ 8 _ _ _ h.bx) ⟨m, hm.same (hk 1 _ (by decide) rfl)⟩ (h.hr.kept fun g hg => hk 2 g (by decide) hg) (h.lr.kept fun g hg => hk 3 g (by decide) hg) h.fN (fun m hm => ?_) (fun j x hx => ?_) h.inj
  · obtain ⟨f, y, e, hd, tl, e2, hM⟩ := h.fS m hm
    exact ⟨f, y, e, hd, tl, e2, hM.kept (hk 4 f (by decide) (by show b.fb.map _ = _; rw [e]; rfl)) (hk 5 y (by decide) (by show b.fb.map _ = _; rw [e]; rfl))⟩
  · simpa using h.lo j x hx
/-- one more seen -/
theorem ScM.setM (h : ScM B base w p t sc b) (hB : But b.m w w') {l : List Int} {n : Nat} (hm : MapI w' b.m (snF l) n) : ScM B base w' p t { sc with sn := l } b := by
  have hk : ∀ i x, i ≠ 1 → scK b i = some x → w'.heap[x]? = w.heap[x]? := fun i x hi hx => hB.block x (fun e => hi (h.inj i 1 x hx (by rw [e]; rfl)))
  refine h.turn (by rw [hB.size]; exact Nat.le_refl _) rfl rfl ((hk 0 _ (by decide) rfl).trans h.bx) ⟨n, hm⟩ (h.hr.kept fun g hg => hk 2 g (by decide) hg) (h.lr.kept fun g hg => hk 3 g (by decide) hg) h.fN (fun m hm => ?_) (fun j x hx => ?_) h.inj
  · obtain ⟨f, y, e, hd, tl, e2, hM⟩ := h.fS m hm
    exact ⟨f, y, e, hd, tl, e2, hM.kept (hk 4 f (by decide) (by show b.fb.map _ = _; rw [e]; rfl)) (hk 5 y (by decide) (by show b.fb.map _ = _; rw [e]; rfl))⟩
  · rw [hB.size]
    exact h.lo j x hx
/-- another row of those that are left -/
theorem ScM.setL (h : ScM B base w p t sc b) (hsz : w.heap.size ≤ w'.heap.size) (hk : ∀ i x, i ≠ 3 → scK b i = some x → w'.heap[x]? = w.heap[x]?) {v : Value} {xs : List Int} (hr : RowO w' base v xs) (hn : ∀ r, v.ownBlock = some r → ¬ B.has r ∧ ∀ j, j ≠ 3 → scK b j ≠ some r) : ScM B base (w'.setCell ⟨b.q, 11, none⟩ v) p t { sc with lf := xs } { b with lv := v } := by
  have e3 : ∀ j x, scK { b with lv := v } j = some x → j ≠ 3 → scK b j = some x := fun j x hj h3 => by
    match j, hj, h3 with
    | 0, hj, _ => exact hj
    | 1, hj, _ => exact hj
    | 2, hj, _ => exact hj
    | 4, hj, _ => exact hj
    | 5, hj, _ => exact hj
    | n + 6, hj, _ => cases hj
  have hq : ∀ x, x ≠ b.q → (w'.setCell ⟨b.q, 11, none⟩ v).heap[x]? = w'.heap[x]? := fun x hx => Below.heap_setCell _ _ _ _ hx
  have hqv : ∀ r, v.ownBlock = some r → r ≠ b.q := fun r hr' e => (hn r hr').2 0 (by decide) (by rw [e]; rfl)
  have hkk : ∀ i x, i ≠ 3 → i ≠ 0 → scK b i = some x → (w'.setCell ⟨b.q, 11, none⟩ v).heap[x]? = w.heap[x]? := fun i x h3 h0 hx => (hq x (fun e => h0 (h.inj i 0 x hx (by rw [e]; rfl)))).trans (hk i x h3 hx)
  obtain ⟨m, hm⟩ := h.mp
  refine h.turn (sc' := { sc with lf := xs }) (b' := { b with lv := v }) (by simpa using hsz) rfl rfl (heap_setCell_same _ _ 11 _ _ _ ((hk 0 _ (by decide) rfl).trans h.bx)) ⟨m, hm.same (hkk 1 _ (by decide) (by decide) rfl)⟩ (h.hr.kept fun g hg => hkk 2 g (by decide) (by decide) hg) (hr.kept fun g hg => hq g (hqv g hg)) h.fN (fun m hm => ?_) (fun j x hx => ?_) (fun i j x hi hj => ?_)
  · obtain ⟨f, y, e, hd, tl, e2, hM⟩ := h.fS m hm
    exact ⟨f, y, e, hd, tl, e2, hM.kept (hkk 4 f (by decide) (by decide) (by show b.fb.map _ = _; rw [e]; rfl)) (hkk 5 y (by decide) (by decide) (by show b.fb.map _ = _; rw [e]; rfl))⟩
  · by_cases e : j = 3
    · subst e
      have hl := hr.lt x hx
      exact ⟨hl.1, by simpa using hl.2, (hn x hx).1⟩
    · obtain ⟨a1, a2, a3⟩ := h.lo j x (e3 j x hx e)
      exact ⟨a1, by simp; omega, a3⟩
  · by_cases ei : i = 3
    · by_cases ej : j = 3
      · omega
      · subst ei
        exact absurd (e3 j x hj ej) ((hn x hi).2 j ej)
    · by_cases ej : j = 3
      · subst ej
        exact absurd (e3 i x hi ei) ((hn x hj).2 i ei)
      · exact h.inj i j x (e3 i x hi ei) (e3 j x hj ej)
/-- another row of those that are to be freed; no free is under way -/
theorem ScM.setH (h : ScM B base w p t sc b) (hf : sc.fr = none) {v : Value} {xs : List Int} (hr : RowO w base v xs) (hn : ∀ r, v.ownBlock = some r → ¬ B.has r ∧ ∀ j, j ≠ 2 → scK b j ≠ some r) : ScM B base (w.setCell ⟨b.q, 10, none⟩ v) p t { sc with hs := xs } { b with hv := v } := by
  have e3 : ∀ j x, scK { b with hv := v } j = some x → j ≠ 2 → scK b j = some x := fun j x hj h3 => by
    match j, hj, h3 with
    | 0, hj, _ => exact hj
    | 1, hj, _ => exact hj
    | 3, hj, _ => exact hj
    | 4, hj, _ => exact hj
    | 5, hj, _ => exact hj
    | n + 6, hj, _ => cases hj
  have hq : ∀ x, x ≠ b.q → (w.setCell ⟨b.q, 10, none⟩ v).heap[x]? = w.heap[x]? := fun x hx => Below.heap_setCell _ _ _ _ hx
  have hqv : ∀ r, v.ownBlock = some r → r ≠ b.q := fun r hr' e => (hn r hr').2 0 (by decide) (by rw [e]; rfl)
  have hkk : ∀ i x, i ≠ 0 → scK b i = some x → (w.setCell ⟨b.q, 10, none⟩ v).heap[x]? = w.heap[x]? := fun i x h0 hx => hq x (fun e => h0 (h.inj i 0 x hx (by rw [e]; rfl)))
  obtain ⟨m, hm⟩ := h.mp
  refine h.turn (sc' := { sc with hs := xs }) (b' := { b with hv := v }) (by simp) rfl rfl (heap_setCell_same _ _ 10 _ _ _ h.bx) ⟨m, hm.same (hkk 1 _ (by decide) rfl)⟩ (hr.kept fun g hg => hq g (hqv g hg)) (h.lr.kept fun g hg => hkk 3 g (by decide) hg) h.fN (fun m hm => ?_) (fun j x hx => ?_) (fun i j x hi hj => ?_)
  · have hm' : sc.fr = some m := hm
    rw [hf] at hm'
    cases hm'
  · by_cases e : j = 2
    · subst e
      have hl := hr.lt x hx
      exact ⟨hl.1, by simpa using hl.2, (hn x hx).1⟩
    · obtain ⟨a1, a2, a3⟩ := h.lo j x (e3 j x hx e)
      exact ⟨a1, by simp; omega, a3⟩
  · by_cases ei : i = 2
    · by_cases ej : j = 2
      · omega
      · subst ei
        exact absurd (e3 j x hj ej) ((hn x hi).2 j ej)
    · by_cases ej : j = 2
      · subst ej
        exact absurd (e3 i x hi ei) ((hn x hj).2 i ei)
      · exact h.inj i j x (e3 i x hi ei) (e3 j x hj ej)
/-- a free begins -/
theorem ScM.setF (h : ScM B base w p t sc b) (hf : sc.fr = none) (hb : Below w.heap.size w w') {f y : Nat} {a : Int} {tl : List Int} {m : Pu} (hs : sc.hs = a :: tl) (hM : MAt B f y w' p (.free a (4 * t.wk + clN a) m)) (hw : base ≤ w.heap.size) (hB : ∀ k, B.has k → k < w.heap.size) (h1 : w.heap.size ≤ f) (h2 : w.heap.size ≤ y) : ScM B base (w'.setCell ⟨b.q, 12, none⟩ (.pointer (some ⟨f, 0, none⟩))) p t { sc with fr := some m } { b with fb := some (f, y) } := by
  have hb0 : b.fb = none := h.fN hf
  have hM' := hM.lt
  have e3 : ∀ j x, scK { b with fb := some (f, y) } j = some x → scK b j = some x ∨ (j = 4 ∧ x = f) ∨ (j = 5 ∧ x = y) := fun j x hj => by
    match j, hj with
    | 0, hj => exact .inl hj
    | 1, hj => exact .inl hj
    | 2, hj => exact .inl hj
    | 3, hj => exact .inl hj
    | 4, hj => exact .inr (.inl ⟨rfl, (Option.some.inj hj).symm⟩)
    | 5, hj => exact .inr (.inr ⟨rfl, (Option.some.inj hj).symm⟩)
    | n + 6, hj => cases hj
  have hql := h.lo 0 _ rfl
  have hq : ∀ x, x ≠ b.q → (w'.setCell ⟨b.q, 12, none⟩ (.pointer (some ⟨f, 0, none⟩))).heap[x]? = w'.heap[x]? := fun x hx => Below.heap_setCell _ _ _ _ hx
  have hkk : ∀ i x, i ≠ 0 → scK b i = some x → (w'.setCell ⟨b.q, 12, none⟩ (.pointer (some ⟨f, 0, none⟩))).heap[x]? = w.heap[x]? := fun i x h0 hx => (hq x (fun e => h0 (h.inj i 0 x hx (by rw [e]; rfl)))).trans (hb.block x (h.lo i x hx).2.1)
  obtain ⟨n, hm⟩ := h.mp
  refine h.turn (sc' := { sc with fr := some m }) (b' := { b with fb := some (f, y) }) (by simpa using hb.size) rfl rfl ?_ ⟨n, hm.same (hkk 1 _ (by decide) rfl)⟩ (h.hr.kept fun g hg => hkk 2 g (by decide) hg) (h.lr.kept fun g hg => hkk 3 g (by decide) hg) (fun e => by cases e) (fun m' hm' => ?_) (fun j x hx => ?_) (fun i j x hi hj => ?_)
  · have := heap_setCell_same w' b.q 12 _ _ (.pointer (some ⟨f, 0, none⟩)) ((hb.block _ hql.2.1).trans h.bx)
    exact this
  · cases hm'
    exact ⟨f, y, rfl, a, tl, hs, hM.kept (hq f (by omega)) (hq y (by omega))⟩
  · rcases e3 j x hx with e | ⟨-, rfl⟩ | ⟨-, rfl⟩
    · obtain ⟨a1, a2, a3⟩ := h.lo j x e
      have := hb.size
      exact ⟨a1, by simp; omega, a3⟩
    · exact ⟨by omega, by simp; omega, fun hk => by have := hB _ hk; omega⟩
    · exact ⟨by omega, by simp; omega, fun hk => by have := hB _ hk; omega⟩
  · rcases e3 i x hi with e | ⟨e0, e⟩ | ⟨e0, e⟩
    · have hx := (h.lo i x e).2.1
      rcases e3 j x hj with e' | ⟨-, e'⟩ | ⟨-, e'⟩
      · exact h.inj i j x e e'
      · omega
      · omega
    · rcases e3 j x hj with e' | ⟨e1, e'⟩ | ⟨e1, e'⟩
      · have hx := (h.lo j x e').2.1
        omega
      · omega
      · omega
    · rcases e3 j x hj with e' | ⟨e1, e'⟩ | ⟨e1, e'⟩
      · have hx := (h.lo j x e').2.1
        omega
      · omega
      · omega
/-- a free's step -/
theorem ScM.stepF (h : ScM B base w p t sc b) {f y : Nat} {a : Int} {tl : List Int} {m' : Pu} (hs : sc.hs = a :: tl) (hfb : b.fb = some (f, y)) (hF : FrS (S1.S3 B f y) w w') (hM : MAt B f y w' p (.free a (4 * t.wk + clN a) m')) : ScM B base w' p t { sc with fr := some m' } b := by
  have h4 : scK b 4 = some f := by show b.fb.map _ = _; rw [hfb]; rfl
  have h5 : scK b 5 = some y := by show b.fb.map _ = _; rw [hfb]; rfl
  have hk : ∀ i x, i ≠ 4 → i ≠ 5 → scK b i = some x → w'.heap[x]? = w.heap[x]? := fun i x n4 n5 hx => hF.block x (h.lo i x hx).2.1 fun hh => by
    rcases hh with hh | hh | hh
    · exact (h.lo i x hx).2.2 hh
    · exact n4 (h.inj i 4 x hx (by rw [hh]; exact h4))
    · exact n5 (h.inj i 5 x hx (by rw [hh]; exact h5))
  obtain ⟨n, hm⟩ := h.mp
  refine h.turn (sc' := { sc with fr := some m' }) (b' := b) hF.size rfl rfl ((hk 0 _ (by decide) (by decide) rfl).trans h.bx) ⟨n, hm.same (hk 1 _ (by decide) (by decide) rfl)⟩ (h.hr.kept fun g hg => hk 2 g (by decide) (by decide) hg) (h.lr.kept fun g hg => hk 3 g (by decide) (by decide) hg) (fun e => by cases e) (fun m2 hm2 => ?_) (fun j x hx => ?_) h.inj
  · cases hm2
    exact ⟨f, y, hfb, a, tl, hs, hM⟩
  · obtain ⟨a1, a2, a3⟩ := h.lo j x hx
    have := hF.size
    exact ⟨a1, by omega, a3⟩
/-- a free has ended: the next one -/
theorem ScM.done (h : ScM B base w p t sc b) {f y : Nat} (hfb : b.fb = some (f, y)) (hF : FrS (S1.S3 B f y) w w') {v : Value} {xs : List Int} (hr : RowO w base v xs) (hn : ∀ r, v.ownBlock = some r → b.hv.ownBlock = some r) : ScM B base ((w'.setCell ⟨b.q, 10, none⟩ v).setCell ⟨b.q, 12, none⟩ (.pointer none)) p t { sc with hs := xs, fr := none } { b with hv := v, fb := none } := by
  have h4 : scK b 4 = some f := by show b.fb.map _ = _; rw [hfb]; rfl
  have h5 : scK b 5 = some y := by show b.fb.map _ = _; rw [hfb]; rfl
  have hk0 : ∀ i x, i ≠ 4 → i ≠ 5 → scK b i = some x → w'.heap[x]? = w.heap[x]? := fun i x n4 n5 hx => hF.block x (h.lo i x hx).2.1 fun hh => by
    rcases hh with hh | hh | hh
    · exact (h.lo i x hx).2.2 hh
    · exact n4 (h.inj i 4 x hx (by rw [hh]; exact h4))
    · exact n5 (h.inj i 5 x hx (by rw [hh]; exact h5))
  have hk : ∀ i x, i ≠ 0 → i ≠ 4 → i ≠ 5 → scK b i = some x → ((w'.setCell ⟨b.q, 10, none⟩ v).setCell ⟨b.q, 12, none⟩ (.pointer none)).heap[x]? = w.heap[x]? := fun i x n0 n4 n5 hx => by
    have hne : x ≠ b.q := fun e => n0 (h.inj i 0 x hx (by rw [e]; rfl))
    exact (Below.heap_setCell _ _ _ _ hne).trans ((Below.heap_setCell _ _ _ _ hne).trans (hk0 i x n4 n5 hx))
  have e3 : ∀ j x, scK { b with hv := v, fb := none } j = some x → scK b j = some x ∧ j ≠ 4 ∧ j ≠ 5 := fun j x hj => by
    match j, hj with
    | 0, hj => exact ⟨hj, by decide, by decide⟩
    | 1, hj => exact ⟨hj, by decide, by decide⟩
    | 2, hj => exact ⟨hn x hj, by decide, by decide⟩
    | 3, hj => exact ⟨hj, by decide, by decide⟩
    | 4, hj => cases hj
    | 5, hj => cases hj
    | n + 6, hj => cases hj
  obtain ⟨n, hm⟩ := h.mp
  have b1 := heap_setCell_same w' b.q 10 _ _ v ((hk0 0 _ (by decide) (by decide) rfl).trans h.bx)
  have b2 := heap_setCell_same (w'.setCell ⟨b.q, 10, none⟩ v) b.q 12 _ _ (.pointer none) b1
  refine h.turn (sc' := { sc with hs := xs, fr := none }) (b' := { b with hv := v, fb := none }) (by simpa using hF.size) rfl rfl b2 ⟨n, hm.same (hk 1 _ (by decide) (by decide) (by decide) rfl)⟩ (hr.kept fun g hg => hk 2 g (by decide) (by decide) (by decide) (hn g hg)) (h.lr.kept fun g hg => hk 3 g (by decide) (by decide) (by decide) hg) (fun _ => rfl) (fun m2 hm2 => by cases hm2) (fun j x hx => ?_) (fun i j x hi hj => h.inj i j x (e3 i x hi).1 (e3 j x hj).1)
  obtain ⟨a1, a2, a3⟩ := h.lo j x (e3 j x hx).1
  have := hF.size
  exact ⟨a1, by simp; omega, a3⟩
end
end Go.Proofs.YtopnkfbcphbbiaaDoor
namespace Go.Proofs.YtopnkfbcphbbiaaDoor
open Go.RowKit
open H8 (okP sizeF HTab below_then packV packF isH)
open A9 (Ab ArAt ArMem FrA Ar rawA setRawA useA ptrA Ok9 MapI But SrcN Left9 isTab htab_keep upF src_one)
open F0 (Pl5 Tn PuAt PoAt FrS noT plBox plS plS_of below_next Wk Pu Po upO)
open S1 (RowO MAt Mc FeM FeR stepF grN clN PlS)

def inB (sn : List Int) (h : Int) : Bool := decide (h ∈ sn)
/-- under way: so many told apart -/
structure PtR (B : Ab) (base : Nat) (w0 : World) (p : Pl5) (t : Tb) (sc : Sc) (b : Sb) (i : Nat) (ln : Value) (s : Ar) (w : World) : Prop where
  ar : ArAt B w s
  M : ∃ lv, ScM B base w p t { sc with lf := sc.lf ++ (sc.hs.take i).filter (inB sc.sn) } { b with lv := lv } ∧ (∀ x, ln.ownBlock = some x → ¬ B.has x ∧ ∀ j, scK { b with lv := lv } j ≠ some x)
  ln : RowO w base ln ((sc.hs.take i).filter (fun h => !inB sc.sn h))
  fr : FrB B base w0 w
section
variable {B : Ab} {base : Nat} {w w' w0 : World} {p : Pl5} {t : Tb} {sc : Sc} {b : Sb} {s : Ar} {i : Nat} {ln : Value}
theorem PtR.below (h : PtR B base w0 p t sc b i ln s w) (hb : Below w.heap.size w w') : PtR B base w0 p t sc b i ln s w' := by
  obtain ⟨h1, ⟨lv, h2, h3⟩, h4, h5⟩ := h
  exact ⟨h1.below hb, ⟨lv, h2.below hb, h3⟩, h4.kept fun g hg => hb.block g (h4.lt g hg).2, h5.trans (FrB.below hb)⟩
theorem PtR.size (h : PtR B base w0 p t sc b i ln s w) (h0 : base ≤ w0.heap.size) : base ≤ w.heap.size := Nat.le_trans h0 h.fr.size
theorem take_snoc {l : List Int} {i : Nat} {x : Int} (h : l[i]? = some x) (f : Int → Bool) : (l.take (i + 1)).filter f = if f x then (l.take i).filter f ++ [x] else (l.take i).filter f := by
  rw [List.take_add_one, h]
  simp only [Option.toList_some, List.filter_append, List.filter_cons, List.filter_nil]
  cases f x <;> simp
theorem row_at {v : Value} {xs : List Int} {bs : Nat} (h : RowO w bs v xs) {j : Nat} {x : Int} (hx : xs[j]? = some x) : ∃ r off cap, v = .slice (some ⟨r, off, none⟩) xs.length cap ∧ w.cell? ⟨r, off + j, none⟩ = some (.int .i64 x) ∧ xs.length ≤ cap ∧ cap ≤ maxLen := by
  rcases h with ⟨-, rfl⟩ | ⟨r, off, cap, cur, rfl, h1, h2, h3, h4, h5, h6⟩
  · simp at hx
  · exact ⟨r, off, cap, rfl, (cell_of_row w r _ _ _ _ h2).trans (h6 j x hx), h3, h4⟩
theorem nd_other {b : Sb} {lv v' : Value} {j : Nat} {x : Nat} (h : scK { b with lv := v' } j = some x) (hj : j ≠ 3) : scK { b with lv := lv } j = some x := by
  match j, h, hj with
  | 0, h, _ => exact h
  | 1, h, _ => exact h
  | 2, h, _ => exact h
  | 4, h, _ => exact h
  | 5, h, _ => exact h
  | n + 6, h, _ => cases h
theorem filter_len (f : Int → Bool) (l : List Int) (i : Nat) : ((l.take i).filter f).length ≤ l.length := Nat.le_trans (List.length_filter_le _ _) (by rw [List.length_take]; omega)
/-- one that is left -/
theorem PtR.left (h : PtR B base w0 p t sc b i ln s w) (hO : Old B base) (h0 : base ≤ w0.heap.size) {x : Int} (hx : sc.hs[i]? = some x) (hin : inB sc.sn x = true) {lv : Value} (ty : TypeId) (hlv : w.cell? ⟨b.q, 11, none⟩ = some lv) {ad : Option Addr} {cap : Nat} (hs : SrcN w ad 1 [x]) (hlen : sc.lf.length + sc.hs.length ≤ 10000) :
    ∃ v' w', (Builtin.append_ #[22, 22] ty #[lv, .slice ad 1 cap]).run Tryd.prog w = .ok v' w' ∧ w'.cell? ⟨b.q, 11, none⟩ = some lv ∧ w'.frozen? ⟨b.q, 11, none⟩ = false ∧ PtR B base w0 p t sc b (i + 1) ln s (w'.setCell ⟨b.q, 11, none⟩ v') := by
  have hbs := h.size h0
  obtain ⟨hA, ⟨lv0, hM, hd⟩, hl, hF⟩ := h
  have e0 : lv = lv0 := by
    have := hM.cell 11
    rw [hlv] at this
    exact Option.some.inj this
  subst e0
  obtain ⟨v', w', hr, ho, hkb, hsz, e1, e2, e3, hbk⟩ := hM.lr.app ty hbs (cap := cap) hs (by have := filter_len (inB sc.sn) sc.hs i; simp only [List.length_append]; omega)
  have hl3 : ∀ k, lv.ownBlock = some k → base ≤ k ∧ k < w.heap.size ∧ ¬ B.has k := fun k hk => hM.lo 3 k hk
  have hk : ∀ j y, j ≠ 3 → scK { b with lv := lv } j = some y → w'.heap[y]? = w.heap[y]? := fun j y hj hy => hkb y (hM.lo j y hy).2.1 fun e => hj (hM.inj j 3 y hy e)
  have hkB : ∀ k, B.has k → w'.heap[k]? = w.heap[k]? := fun k hk => hkb k (hA.lt hk) fun e => (hl3 k e).2.2 hk
  have hFw : FrB B base w w' := ⟨e1, e2, e3, hsz, fun k hk hn => hkb k hk fun e => hn (.inr (hl3 k e).1)⟩
  have hvn : ∀ r, v'.ownBlock = some r → lv.ownBlock = some r ∨ w.heap.size ≤ r := fun r hr => by
    rcases hbk with e | e
    · exact .inl (by rw [← e]; exact hr)
    · exact .inr (e r hr)
  have hM2 := hM.setL hsz hk ho (fun r hr => ⟨fun hb => by
    rcases hvn r hr with e | e
    · exact (hl3 r e).2.2 hb
    · have := hA.lt hb; omega, fun j hj he => by
    rcases hvn r hr with e | e
    · exact hj (hM.inj j 3 r he e)
    · have := (hM.lo j r he).2.1; omega⟩)
  have hq := hM.lo 0 _ rfl
  have hqb := (hk 0 _ (by decide) rfl).trans hM.bx
  have hqc : w'.cell? ⟨b.q, 11, none⟩ = some lv := cell_of_row _ _ _ _ _ _ hqb
  have hA' : ArAt B w' s := hFw.ar hO hbs hA hkB
  refine ⟨v', w', hr, hqc, frozen_of_row w' _ _ _ _ hqb, ar_set hA' hO (by omega) hq.1 11 v', ⟨v', ?_, fun y hy => ⟨(hd y hy).1, fun j hj => ?_⟩⟩, ?_, (hF.trans hFw).setCell hq.1 11 v'⟩
  · rw [take_snoc hx, if_pos hin, ← List.append_assoc]
    exact hM2
  · by_cases ej : j = 3
    · subst ej
      rcases hvn y hj with e | e
      · exact (hd y hy).2 3 e
      · have := (hl.lt y hy).2; omega
    · exact (hd y hy).2 j (nd_other hj ej)
  · rw [take_snoc hx, if_neg (by simp [hin])]
    refine hl.kept fun g hg => ?_
    have n0 : g ≠ b.q := fun e => (hd g hg).2 0 (by rw [e]; rfl)
    exact (Below.heap_setCell _ _ _ _ n0).trans (hkb g (hl.lt g hg).2 fun e => (hd g hg).2 3 e)
/-- one that shall be freed -/
theorem PtR.lone (h : PtR B base w0 p t sc b i ln s w) (hO : Old B base) (h0 : base ≤ w0.heap.size) {x : Int} (hx : sc.hs[i]? = some x) (hin : inB sc.sn x = false) (ty : TypeId) {ad : Option Addr} {cap : Nat} (hs : SrcN w ad 1 [x]) (hlen : sc.lf.length + sc.hs.length ≤ 10000) :
    ∃ v' w', (Builtin.append_ #[22, 22] ty #[ln, .slice ad 1 cap]).run Tryd.prog w = .ok v' w' ∧ PtR B base w0 p t sc b (i + 1) v' s w' := by
  have hbs := h.size h0
  obtain ⟨hA, ⟨lv, hM, hd⟩, hl, hF⟩ := h
  obtain ⟨v', w', hr, ho, hkb, hsz, e1, e2, e3, hbk⟩ := hl.app ty hbs (cap := cap) hs (by have := filter_len (fun h => !inB sc.sn h) sc.hs i; omega)
  have hk : ∀ j y, scK { b with lv := lv } j = some y → w'.heap[y]? = w.heap[y]? := fun j y hy => hkb y (hM.lo j y hy).2.1 fun e => (hd y e).2 j hy
  have hkB : ∀ k, B.has k → w'.heap[k]? = w.heap[k]? := fun k hk => hkb k (hA.lt hk) fun e => (hd k e).1 hk
  have hFw : FrB B base w w' := ⟨e1, e2, e3, hsz, fun k hk hn => hkb k hk fun e => hn (.inr (hl.lt k e).1)⟩
  have hvn : ∀ r, v'.ownBlock = some r → ln.ownBlock = some r ∨ w.heap.size ≤ r := fun r hr => by
    rcases hbk with e | e
    · exact .inl (by rw [← e]; exact hr)
    · exact .inr (e r hr)
  refine ⟨v', w', hr, hFw.ar hO hbs hA hkB, ⟨lv, ?_, fun y hy => ⟨fun hb => ?_, fun j hj => ?_⟩⟩, ?_, hF.trans hFw⟩
  · rw [take_snoc hx, if_neg (by simp [hin])]
    exact hM.keep hsz hk
  · rcases hvn y hy with e | e
    · exact (hd y e).1 hb
    · have := hA.lt hb; omega
  · rcases hvn y hy with e | e
    · exact (hd y e).2 j hj
    · have := (hM.lo j y hj).2.1; omega
  · rw [take_snoc hx, if_pos (by simp [hin])]
    exact ho
theorem list_left {ops : Array Oper} {rest : List Oper} {o : Oper} {a : Act} {Q : Exit → Act → World → Prop} (hgd : o.guard = none) (x y : Operand)
    (ho : o.op = .call { callee := .builtin .append, args := #[x, y], argTypes := #[22, 22] }) (h : PtR B base w0 p t sc b i ln s w) (hO : Old B base) (h0 : base ≤ w0.heap.size) {z : Int} (hz : sc.hs[i]? = some z) (hin : inB sc.sn z = true) {lv : Value} (hlv : w.cell? ⟨b.q, 11, none⟩ = some lv) {ad : Option Addr} {cap : Nat} (hx : a.eval x = lv) (hy : a.eval y = .slice ad 1 cap) (hs : SrcN w ad 1 [z]) (hlen : sc.lf.length + sc.hs.length ≤ 10000)
    (hK : ∀ va vn vc w', w'.cell? ⟨b.q, 11, none⟩ = some lv → w'.frozen? ⟨b.q, 11, none⟩ = false → PtR B base w0 p t sc b (i + 1) ln s (w'.setCell ⟨b.q, 11, none⟩ (.slice va vn vc)) → wpList Tryd.prog ops Q rest (a.put o.dst (.slice va vn vc)) w') : wpList Tryd.prog ops Q (o :: rest) a w := by
  refine wpList_plain hgd fun K' hK' => ?_
  obtain ⟨v', w', hr, h2, h3, h4⟩ := h.left hO h0 hz hin o.type hlv (cap := cap) hs hlen
  obtain ⟨va, vn, vc, rfl⟩ : ∃ va vn vc, v' = .slice va vn vc := by
    obtain ⟨lv', hM', -⟩ := h4.M
    have e1 := hM'.cell 11
    have e2 := cell_of_row _ _ 11 _ _ _ hM'.bx
    obtain ⟨va, vc, e3⟩ := hM'.lr.len
    have e4 : (w'.setCell ⟨b.q, 11, none⟩ v').cell? ⟨b.q, 11, none⟩ = some v' := World.cell?_setCell_same w' _ _ h2
    have e5 : some v' = some lv' := e4.symm.trans e1
    cases e5
    exact ⟨_, _, _, e3⟩
  unfold Oper.wp execOp
  simp only [ho, resolve, invoke, builtin, Sem.run_bind, Sem.run_pure, Result.andThen_ok, List.map_toArray, List.map_cons, List.map_nil, hx, hy, hr]
  exact hK' _ _ (hK va vn vc w' h2 h3 h4)
theorem list_lone {ops : Array Oper} {rest : List Oper} {o : Oper} {a : Act} {Q : Exit → Act → World → Prop} (hgd : o.guard = none) (x y : Operand)
    (ho : o.op = .call { callee := .builtin .append, args := #[x, y], argTypes := #[22, 22] }) (h : PtR B base w0 p t sc b i ln s w) (hO : Old B base) (h0 : base ≤ w0.heap.size) {z : Int} (hz : sc.hs[i]? = some z) (hin : inB sc.sn z = false) {ad : Option Addr} {cap : Nat} (hx : a.eval x = ln) (hy : a.eval y = .slice ad 1 cap) (hs : SrcN w ad 1 [z]) (hlen : sc.lf.length + sc.hs.length ≤ 10000)
    (hK : ∀ v' w', PtR B base w0 p t sc b (i + 1) v' s w' → wpList Tryd.prog ops Q rest (a.put o.dst v') w') : wpList Tryd.prog ops Q (o :: rest) a w := by
  refine wpList_plain hgd fun K' hK' => ?_
  obtain ⟨v', w', hr, h2⟩ := h.lone hO h0 hz hin o.type (cap := cap) hs hlen
  unfold Oper.wp execOp
  simp only [ho, resolve, invoke, builtin, Sem.run_bind, Sem.run_pure, Result.andThen_ok, List.map_toArray, List.map_cons, List.map_nil, hx, hy, hr]
  exact hK' _ _ (hK v' w' h2)
/-- all told apart: what the scan then is -/
def scPart (sc : Sc) : Sc := ⟨sc.lk, [], sc.hs.filter (fun h => !inB sc.sn h), sc.lf ++ sc.hs.filter (inB sc.sn), none⟩
def PtPost (B : Ab) (base : Nat) (w0 : World) (p : Pl5) (t : Tb) (sc : Sc) (b : Sb) (s : Ar) (w : World) : Prop := ArAt B w s ∧ FrB B base w0 w ∧ ∃ b', b'.q = b.q ∧ ScM B base w p t (scPart sc) b'
theorem PtR.all (h : PtR B base w0 p t sc b sc.hs.length ln s w) (hO : Old B base) (h0 : base ≤ w0.heap.size) (hf : sc.fr = none) : ArAt B (w.setCell ⟨b.q, 10, none⟩ ln) s ∧ FrB B base w0 (w.setCell ⟨b.q, 10, none⟩ ln) ∧ ∃ b', b'.q = b.q ∧ b'.m = b.m ∧ ScM B base (w.setCell ⟨b.q, 10, none⟩ ln) p t { scPart sc with sn := sc.sn } b' := by
  have hbs := h.size h0
  obtain ⟨hA, ⟨lv, hM, hd⟩, hl, hF⟩ := h
  have hq := hM.lo 0 _ rfl
  have h2 := hM.setH (v := ln) (xs := (sc.hs.take sc.hs.length).filter (fun h => !inB sc.sn h)) hf hl (fun r hr => ⟨(hd r hr).1, fun j _ => (hd r hr).2 j⟩)
  refine ⟨ar_set hA hO hbs hq.1 10 ln, hF.setCell hq.1 10 ln, { b with lv := lv, hv := ln }, rfl, rfl, ?_⟩
  rw [List.take_length] at h2
  unfold scPart
  rw [← hf]
  exact h2
theorem PtR.begin (hA : ArAt B w s) (hM : ScM B base w p t sc b) : PtR B base w p t sc b 0 (.slice none 0 0) s w :=
  ⟨hA, ⟨b.lv, by simpa using hM, fun x hx => by simp [Value.ownBlock] at hx⟩, RowO.nil _ _, FrB.refl _ _ _⟩
theorem zeroU (w : World) : (zeroValue 88).run Tryd.prog w = .ok (.agg #[]) w := by kernel_rfl
set_option maxHeartbeats 1000000 in
set_option maxRecDepth 4000 in
theorem part_any (hA : ArAt B w s) (hM : ScM B base w p t sc b) (hO : Old B base) (h0 : base ≤ w.heap.size) (hf : sc.fr = none) (hlen : sc.lf.length + sc.hs.length ≤ 10000) :
    Calls Tryd.prog 52 #[.pointer (some ⟨b.q, 0, none⟩)] w fun e w' => e = .returned (.tuple #[]) ∧ PtPost B base w p t sc b s w' := by
  obtain ⟨oa, oc, hv⟩ := hM.hr.len
  have c10 := hM.cell 10
  simp only [scB] at c10
  rw [hv] at c10
  have HB : Hid (PtR B base w p t sc b 0 (.slice none 0 0) s w) := PtR.begin hA hM
  have HV : Hid (b.hv = .slice oa sc.hs.length oc) := hv
  have HL : Hid (sc.lf.length + sc.hs.length ≤ 10000) := hlen
  clear hA hM hv
  obtain ⟨N, HN⟩ : ∃ N, Hid (N = sc.hs.length) := ⟨_, rfl⟩
  rw [← HN.out] at c10 HV
  have hN9 : N ≤ 10000 := by have := HN.out; have := HL.out; omega
  obtain ⟨w0, HW⟩ : ∃ w0, Hid (w0 = w) := ⟨w, rfl⟩
  go_enter Tryd.func52, Tryd.ntmps52
  go_wp2_with fail
  go_loopw [2, 12] (fun lv iv wr => ∃ i : Nat, i ≤ N ∧ iv = .int .i64 i ∧ PtR B base w p t sc b i lv s wr) (fun _ iv _ => N - (intOf iv).toNat)
  case atStart => exact ⟨0, by omega, rfl, HB.out⟩
  case round =>
    obtain ⟨i, hi, rfl, hR⟩ := hrel
    clear HB c10
    obtain ⟨wq, rfl⟩ : ∃ W, W = wr := ⟨wr, rfl⟩
    by_cases hlt : i < N
    · obtain ⟨x, hx⟩ : ∃ x, sc.hs[i]? = some x := ⟨_, List.getElem?_eq_getElem (by rw [← HN.out]; exact hlt)⟩
      obtain ⟨lv, hM, hd⟩ := hR.M
      obtain ⟨r, off, cap, e1, hc, hc1, hc2⟩ := row_at hM.hr hx
      have e2 : b.hv = .slice (some ⟨r, off, none⟩) sc.hs.length cap := e1
      rw [HV.out] at e2
      injection e2 with z1 z2 z3
      subst z1 z3
      clear e1 z2
      rw [← HN.out] at hc1
      have c9 : wq.cell? ⟨b.q, 9, none⟩ = some (.map (some b.m)) := hM.cell 9
      have c11 : wq.cell? ⟨b.q, 11, none⟩ = some lv := hM.cell 11
      obtain ⟨n, hm⟩ := hM.mp
      have hl := hm.lookOk Tryd.underlying68 Tryd.underlying3 (zeroU wq) x
      have hli : (i : Int) < (N : Int) := by omega
      have hql := (hM.lo 0 _ rfl).2.1
      have hv9 : (snF sc.sn x).getD (.agg #[]) = .agg #[] := by
        unfold snF
        split <;> rfl
      have hs9 : (snF sc.sn x).isSome = inB sc.sn x := by
        unfold snF inB
        by_cases e : x ∈ sc.sn <;> simp [e]
      rw [show ({ sc with lf := sc.lf ++ (sc.hs.take i).filter (inB sc.sn) } : Sc).sn = sc.sn from rfl, show ({ b with lv := lv } : Sb).m = b.m from rfl, hv9, hs9] at hl
      obtain ⟨la, lc, hlv⟩ := hM.lr.len
      simp only at hlv
      generalize hln : (sc.lf ++ (sc.hs.take i).filter (inB sc.sn)).length = ll at hlv
      subst hlv
      clear hM hd hm hv9 hs9 hln
      obtain ⟨w2, hw2⟩ : ∃ W, W = (wq.alloc (.cells #[] 88 (0, 0))).alloc (.cells #[.int .i64 x] 3 (0, 0)) := ⟨_, rfl⟩
      have hb2 : Below wq.heap.size wq w2 := by rw [hw2]; exact ((Below.refl _ _).alloc (Nat.le_refl _) _).alloc (by simp) _
      have hsrc : SrcN w2 (some ⟨wq.heap.size + 1, 0, none⟩) 1 [x] := by
        have := src_one (wq.alloc (.cells #[] 88 (0, 0))) x
        rw [hw2]
        simpa using this
      have HS : Hid (PtR B base w p t sc b i u2 s w2 ∧ SrcN w2 (some ⟨wq.heap.size + 1, 0, none⟩) 1 [x] ∧ w2.cell? ⟨b.q, 11, none⟩ = some (.slice la ll lc)) := ⟨hR.below hb2, hsrc, (hb2.cell (p := ⟨b.q, 11, none⟩) hql).trans c11⟩
      have HX : Hid (sc.hs[i]? = some x) := hx
      have HLT : Hid (i < N) := hlt
      have HM2 : Hid (w2 = (wq.alloc (.cells #[] 88 (0, 0))).alloc (.cells #[.int .i64 x] 3 (0, 0))) := hw2
      clear hR hb2 hsrc hx hw2
      have hc' : wq.cell? ⟨r, off + 1 * i, none⟩ = some (.int .i64 x) := by rw [Nat.one_mul]; exact hc
      cases hin : inB sc.sn x with
      | true =>
        rw [hin] at hl
        have HT : Hid (inB sc.sn x = true) := hin
        clear hin
        go_wp2_with (rw [← HM2.out]; refine list_left rfl _ _ rfl HS.out.1 hO h0 HX.out HT.out HS.out.2.2 rfl rfl HS.out.2.1 HL.out ?_; intro va vn vc w3 d11 f11 hR3; have HR3 : Hid _ := hR3; clear hR3)
        go_roundw
        case rel => exact ⟨i + 1, HLT.out, by go_num, HR3.out⟩
        case measure =>
          have := HLT.out
          simp [intOf]
          omega
      | false =>
        rw [hin] at hl
        have HT : Hid (inB sc.sn x = false) := hin
        clear hin
        go_wp2_with (rw [← HM2.out]; refine list_lone rfl _ _ rfl HS.out.1 hO h0 HX.out HT.out rfl rfl HS.out.2.1 HL.out ?_; intro v' w3 hR3; have HR3 : Hid _ := hR3; clear hR3)
        go_roundw
        case rel => exact ⟨i + 1, HLT.out, by go_num, HR3.out⟩
        case measure =>
          have := HLT.out
          simp [intOf]
          omega
    · obtain rfl : i = N := by omega
      have hli : ¬ (i : Int) < (i : Int) := by omega
      have hlb : decide ((i : Int) < (i : Int)) = false := by simp
      have e0 : i = sc.hs.length := HN.out
      have hR2 : PtR B base w p t sc b sc.hs.length u2 s wq := e0 ▸ hR
      obtain ⟨lv, hM, hd⟩ := hR.M
      have c9 : wq.cell? ⟨b.q, 9, none⟩ = some (.map (some b.m)) := hM.cell 9
      have c10 : wq.cell? ⟨b.q, 10, none⟩ = some b.hv := hM.cell 10
      have f10 : wq.frozen? ⟨b.q, 10, none⟩ = false := hM.frozen 10
      obtain ⟨la, lc, hlv⟩ := hR2.ln.len
      generalize ((sc.hs.take sc.hs.length).filter fun h => !inB sc.sn h).length = ll at hlv
      obtain ⟨hA3, hF3, b', hb1, hb2, hM3⟩ := hR2.all hO h0 hf
      subst hlv
      have HA3 : Hid (ArAt B (wq.setCell ⟨b.q, 10, none⟩ (.slice la ll lc)) s ∧ FrB B base w (wq.setCell ⟨b.q, 10, none⟩ (.slice la ll lc)) ∧ base ≤ (wq.setCell ⟨b.q, 10, none⟩ (.slice la ll lc)).heap.size) := ⟨hA3, hF3, Nat.le_trans h0 hF3.size⟩
      have HM3 : Hid (b'.q = b.q ∧ ScM B base (wq.setCell ⟨b.q, 10, none⟩ (.slice la ll lc)) p t { scPart sc with sn := sc.sn } b' ∧ b'.m = b.m) := ⟨hb1, hM3, hb2⟩
      clear hA3 hF3 hM3 hM hd hR hR2 e0 hlen
      go_wp2_with (obtain ⟨n3, hm3⟩ := HM3.out.2.1.mp; rw [HM3.out.2.2] at hm3; refine list_clear _ rfl _ _ rfl _ _ Tryd.underlying68 rfl hm3 ?_; intro w5 hm5 hB5; have HM5 : Hid (MapI w5 b.m (fun _ => none) 0 ∧ But b.m (wq.setCell ⟨b.q, 10, none⟩ (.slice la ll lc)) w5) := ⟨hm5, hB5⟩; clear hm3 hm5 hB5)
      obtain ⟨hA3, hF3, hs3⟩ := HA3.out
      obtain ⟨e1, hM3, e2⟩ := HM3.out
      obtain ⟨hm5, hB5⟩ := HM5.out
      have hmb := hM3.lo 1 _ rfl
      rw [← e2] at hm5 hB5
      exact bodyPost_end (v := .tuple #[]) (by simp [results, Tryd.results52, go_sem]) rfl ⟨rfl, ar_but hA3 hO hs3 hB5 hmb.1, hF3.trans (FrB.but hB5 hmb.1), b', e1, hM3.setM hB5 (l := []) (n := 0) (by rw [show snF [] = fun _ => none from rfl]; exact hm5)⟩
end
end Go.Proofs.YtopnkfbcphbbiaaDoor
