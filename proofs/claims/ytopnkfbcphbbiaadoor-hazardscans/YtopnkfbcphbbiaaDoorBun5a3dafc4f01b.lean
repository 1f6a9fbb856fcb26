/-
  Helpers: Xa, Xb.
-/
import Derived.Test.YtopnkfbcphbbiaaDoorBunf91fb4991a03
import Derived.Test.YtopnkfbcphbbiaaDoorBun6a7aa55ae5ef
namespace Go.Proofs.YtopnkfbcphbbiaaDoor
open Go.RowKit
open H8 (okP sizeF HTab below_then)
open A9 (Ab ArAt FrA Ar setRawA ptrA useA)
open F0 (Pl5 plBox noT noT_new FrS List_any basesF_len headF_eq usedA)
open S1 (RowO PlS plK plK_ok grs clN)

/-- the statement's memory: the marks beside the arena, the places, the row of names -/
structure Xk (B : Ab) (W w : World) (s : Ar) (p : Pl5) (k X b2 b3 b4 : Nat) (v : Value) (l : List Int) (f : Nat → Bool) : Prop where
  lw : Lw B W w s p k X b2 b3 v l
  bo : w.rowIs b4 32 20 fun j => .bool (f j)
  l4 : b4 < w.heap.size
  n4 : ¬ B.has b4
  d4 : b2 ≠ b4 ∧ b3 ≠ b4
  d5 : ∀ g, v.ownBlock = some g → g ≠ b4
  t4 : noT b4
  w4 : W.heap.size ≤ b4
section
variable {B : Ab} {W w w' w0 w1 : World} {s s' : Ar} {p : Pl5} {k X b2 b3 b4 n i q : Nat} {v : Value} {l : List Int} {f : Nat → Bool} {x : Int}
theorem Xk.arena (h : Xk B W w s p k X b2 b3 b4 v l f) (hA : ArAt B w' s') (hF : FrA B w w') : Xk B W w' s' p k X b2 b3 b4 v l f :=
  ⟨h.lw.arena hA hF, h.bo.of_block (hF.block b4 h.l4 h.n4), Nat.lt_of_lt_of_le h.l4 hF.size, h.n4, h.d4, h.d5, h.t4, h.w4⟩
theorem Xk.below (h : Xk B W w s p k X b2 b3 b4 v l f) (hb : Below w.heap.size w w') : Xk B W w' s p k X b2 b3 b4 v l f := h.arena (h.lw.ar.below hb) (FrA.of_below hb)
theorem Xk.set (h : Xk B W w s p k X b2 b3 b4 v l f) (i : Nat) (y : Bool) : Xk B W (w.setCell ⟨b4, i, none⟩ (.bool y)) s p k X b2 b3 b4 v l fun j => if j = i then y else f j := by
  have hbk : ∀ b, b ≠ b4 → (w.setCell ⟨b4, i, none⟩ (.bool y)).heap[b]? = w.heap[b]? := fun b hb => Below.heap_setCell _ _ _ _ hb
  have hl := h.lw
  refine ⟨⟨⟨hl.ar.toArMem.same (fun b hb => hbk b fun e => h.n4 (e ▸ hb)) (A9.htab_set hl.ar.tab h.t4.1 h.t4.2 i _), hl.ar.ok⟩, ⟨hl.low.os, hl.low.tape, hl.low.output, by simpa using hl.low.size, fun b hb => (hbk b (by have := h.w4; omega)).trans (hl.low.block b hb)⟩, hl.own, (hbk b2 h.d4.1).trans hl.g2, (hbk b3 h.d4.2).trans hl.g3, hl.n2, hl.n3, hl.row.kept fun g hg => hbk g (h.d5 g hg), hl.nv⟩, (h.bo.set i _).congr fun j _ => ?_, by simpa using h.l4, h.n4, h.d4, h.d5, h.t4, h.w4⟩
  split <;> rfl
theorem Xk.begin (h : Lw B W w s p k X b2 b3 v l) : Xk B W (w.alloc (.cells (Array.replicate 20 (.bool false)) 32 (0, 0))) s p k X b2 b3 w.heap.size v l fun _ => false := by
  have hb : Below w.heap.size w (w.alloc (.cells (Array.replicate 20 (.bool false)) 32 (0, 0))) := (Below.refl _ _).alloc (Nat.le_refl _) _
  exact ⟨h.below hb, ⟨_, (Go.MapKept.heap_alloc w _).1, by simp, fun i hi => by simp [hi]⟩, by simp, fun hh => by have := h.ar.lt hh; omega, ⟨Nat.ne_of_lt (lt_of_block h.g2), Nat.ne_of_lt (lt_of_block h.g3)⟩, fun g hg => Nat.ne_of_lt (h.row.lt g hg).2, noT_new h.ar.tab (Nat.le_refl _), h.low.size⟩
theorem Xk.mark (h : Xk B W w s p k X b2 b3 b4 v l f) (hi : i < 20) : w.cell? ⟨b4, i, none⟩ = some (.bool (f i)) := h.bo.cell hi
theorem Xk.froz (h : Xk B W w s p k X b2 b3 b4 v l f) (i : Nat) : w.frozen? ⟨b4, i, none⟩ = false := h.bo.frozen i
end
/-- words that name some of them -/
structure Nm1 (s : Ar) (X k : Nat) (l : List Int) (f : Nat → Bool) (i : Nat) : Prop where
  hi : ∀ j, j < 2 * k → i ≤ j → s.raw (X + j) = 0
  lo : ∀ j, j < 2 * k → j < i → s.raw (X + j) = 0 ∨ ∃ q, l[q]? = some (s.raw (X + j)) ∧ f q = true
  of : ∀ q, f q = true → ∃ j, j < 2 * k ∧ l[q]? = some (s.raw (X + j))
section
variable {s s' : Ar} {k X n i q wk : Nat} {l : List Int} {f : Nat → Bool} {x : Int}
theorem Nm1.start (h : ∀ j, j < 2 * k → s.raw (X + j) = 0) : Nm1 s X k l (fun _ => false) 0 := ⟨fun j hj _ => h j hj, fun j _ hj => absurd hj (by omega), fun q h => by cases h⟩
theorem Nm1.skip (h : Nm1 s X k l f i) : Nm1 s X k l f (i + 1) := ⟨fun j h1 h2 => h.hi j h1 (by omega), fun j h1 h2 => by
  by_cases e : j < i
  · exact h.lo j h1 e
  · exact .inl (h.hi j h1 (by omega)), h.of⟩
theorem Nm1.put (h : Nm1 s X k l f i) (hi : i < 2 * k) (hz : ∀ y, y ∈ l → y ≠ 0) (hq : l[q]? = some x) (hw : ∀ j, s'.raw (X + j) = if j = i then x else s.raw (X + j)) : Nm1 s' X k l (fun j => if j = q then true else f j) (i + 1) := by
  refine ⟨fun j h1 h2 => ?_, fun j h1 h2 => ?_, fun q' hf => ?_⟩
  · rw [hw, if_neg (by omega)]
    exact h.hi j h1 (by omega)
  · rw [hw]
    by_cases e : j = i
    · rw [if_pos e]
      exact .inr ⟨q, hq, if_pos rfl⟩
    · rw [if_neg e]
      rcases h.lo j h1 (by omega) with h3 | ⟨q', h3, h4⟩
      · exact .inl h3
      · refine .inr ⟨q', h3, ?_⟩
        show (if q' = q then true else f q') = true
        rw [h4]
        split <;> rfl
  · by_cases e : q' = q
    · exact ⟨i, hi, by rw [hw, if_pos rfl, e, hq]⟩
    · have hf : f q' = true := by simpa [e] using hf
      obtain ⟨j, h1, h2⟩ := h.of q' hf
      refine ⟨j, h1, ?_⟩
      rw [hw, if_neg fun e => ?_]
      · exact h2
      · subst e
        rw [h.hi j h1 (Nat.le_refl _)] at h2
        exact hz 0 (List.mem_of_getElem? h2) rfl
theorem Nm1.tells (h : Nm1 s X k l f i) (hnd : l.Nodup) (hz : ∀ y, y ∈ l → y ≠ 0) (hq : l[q]? = some x) : nmd s ⟨X, k, wk⟩ x = f q := by
  have e : nmd s ⟨X, k, wk⟩ x = true ↔ ∃ j, j < 2 * k ∧ x = s.raw (X + j) := by
    unfold nmd
    rw [decide_eq_true_iff]
  have hx0 := hz x (List.mem_of_getElem? hq)
  cases hf : f q with
  | true =>
    obtain ⟨j, h1, h2⟩ := h.of q hf
    rw [hq] at h2
    exact e.2 ⟨j, h1, Option.some.inj h2⟩
  | false =>
    refine Bool.eq_false_iff.2 fun hh => ?_
    obtain ⟨j, h1, h2⟩ := e.1 hh
    by_cases hj : j < i
    · rcases h.lo j h1 hj with h3 | ⟨q', h3, h4⟩
      · exact hx0 (h2.trans h3)
      · rw [← h2] at h3
        obtain ⟨a1, a2⟩ := List.getElem?_eq_some_iff.1 hq
        obtain ⟨c1, c2⟩ := List.getElem?_eq_some_iff.1 h3
        have : q' = q := (List.getElem_inj hnd).1 (c2.trans a2.symm)
        rw [this, hf] at h4
        cases h4
    · exact hx0 (h2.trans (h.hi j h1 (by omega)))
end
theorem Rt.wide {k n N N' : Nat} {s : Ar} {l : List Int} (h : Rt k n s l N) (hN : N ≤ N') : Rt k n s l N' := ⟨h.W, h.nw, h.nr, h.len, h.nm, h.bad, h.fresh, ⟨h.us.1, Int.le_trans h.us.2 (by omega)⟩, h.cC⟩
/-- loop 1 under way: so many words are told -/
def SaR (B : Ab) (W : World) (p : Pl5) (k X b2 b3 b4 n : Nat) (v : Value) (l : List Int) (i : Nat) (w : World) : Prop := ∃ s f, Xk B W w s p k X b2 b3 b4 v l f ∧ Rt k n s l (200 * n + i) ∧ Nm1 s X k l f i
section
variable {B : Ab} {W w w' w0 w1 : World} {s s' : Ar} {p : Pl5} {k X b2 b3 b4 n i q N : Nat} {v : Value} {l : List Int} {f : Nat → Bool} {x : Int}
theorem set_wordX (h : Xk B W w s p k X b2 b3 b4 v l f) (hX : X = wAt k n) (hR : Rt k n s l N) {j : Nat} (hj : j < 2 * k) (hN : N ≤ 1000000) (x : Int) : Calls Tryd.prog 11 #[ptrA B, .int .i64 ((X + j : Nat) : Int), .int .i64 x] w fun e w' => e = .returned (.tuple #[]) ∧ ∃ s', Xk B W w' s' p k X b2 b3 b4 v l f ∧ Rt k n s' l (N + 1) ∧ (∀ i, s'.raw (X + i) = if i = j then x else s.raw (X + i)) := by
  subst hX
  refine (A9.SetRaw_any h.lw.ar _ x).mono ?_
  rintro e w' ⟨rfl, hA, hF⟩
  exact ⟨rfl, _, h.arena hA hF, hR.word hj (by omega) x, set_raw hR hj x⟩
/-- all of a row behind none -/
theorem run_cp0 (ty : TypeId) {ad : Addr} {cap : Nat} {l : List Int} (hl : l.length ≤ 100000) (hc : ∀ j u, (A9.intsV l)[j]? = some u → w.cell? (ad.add j) = some u) :
    ∃ v' w', (Builtin.append_ #[22, 22] ty #[.slice none 0 0, .slice (some ad) l.length cap]).run Tryd.prog w = .ok v' w' ∧ RowO w' w.heap.size v' l ∧ Below w.heap.size w w' := by
  obtain ⟨i, hi, hz, hz1, hz2⟩ := A9.infoInt
  obtain ⟨v', w', hr, o1, o2, -, o3⟩ := run_append_own_at (P := Tryd.prog) w w.heap.size 22 ty 3 i (.int .i64 0) 1 8 Tryd.underlying22 hi hz hz1 hz2 rfl (by decide) (.slice none 0 0) 0 [] (World.ownsRow_nil _ _ _ _) ad l.length cap (A9.intsV l) (by simp [A9.intsV]) hc A9.intsV_one (by unfold maxLen; omega) (by omega) (Nat.le_refl _)
  exact ⟨v', w', hr, RowO.of_own (n := l.length) (by simpa [A9.intsV] using o1) rfl, ⟨o2.os, o2.tape, o2.output, o2.size, fun k hk => o2.block k hk fun e => by simp [Value.ownBlock] at e⟩⟩
theorem wp_app {o : Oper} {a : Act} {K : Act → World → Prop} {Q : Exit → Act → World → Prop} (x y : Operand) (ho : o.op = .call { callee := .builtin .append, args := #[x, y], argTypes := #[22, 22] }) {v1 v2 v' : Value} (hx : a.eval x = v1) (hy : a.eval y = v2)
    (hr : (Builtin.append_ #[22, 22] o.type #[v1, v2]).run Tryd.prog w = .ok v' w') (hK : K (a.put o.dst v') w') : Oper.wp Tryd.prog o a w K Q := by
  unfold Oper.wp execOp
  simp only [ho, resolve, invoke, builtin, Sem.run_bind, Sem.run_pure, Result.andThen_ok, List.map_toArray, List.map_cons, List.map_nil, hx, hy, hr]
  exact hK
theorem row_src {r off cap n : Nat} {bs : Nat} (h : RowO w bs (.slice (some ⟨r, off, none⟩) n cap) l) : ∀ j u, (A9.intsV l)[j]? = some u → w.cell? ((⟨r, off, none⟩ : Addr).add j) = some u := fun j u hu => by
  rw [A9.intsV, List.getElem?_map] at hu
  obtain ⟨y, hy, rfl⟩ := Option.map_eq_some_iff.1 hu
  rw [Addr.add_lit]
  exact row_cell h hy
end
/-- a scan under way by itself: so many words are looked at -/
def SpR (B : Ab) (W0 W1 : World) (p : Pl5) (K M : Nat) (t : Tb) (q : Nat) (s : Ar) (l : List Int) (cg : Nat) (ls : Nat → List Nat) (live : List Int) (T0 : Nat) (i : Nat) (w : World) : Prop :=
  ∃ s' sc b, ArAt B w s' ∧ ScM B W0.heap.size w p t sc b ∧ b.q = q ∧ FrB B W0.heap.size W1 w ∧ ScR K M t s l cg ls live none T0 s' sc ∧ sc.lk = i
section
variable {B : Ab} {w w' w0 w1 : World} {p : Pl5} {K M T0 cg q i b0 : Nat} {t : Tb} {s s' : Ar} {ls : Nat → List Nat} {l live : List Int} {v : Value}
theorem SpR.begin (hA : ArAt B w s) (hS : ScOk K M t s cg ls live l T0) (hl : RowO w b0 v l) :
    Calls Tryd.prog 13 #[.agg #[.int .i64 (t.tw : Int), .int .i64 (t.a : Int)], p.v, .int .i64 (t.wk : Int), v] w fun e w1 => ∃ q, e = .returned (.pointer (some ⟨q, 0, none⟩)) ∧ Below w.heap.size w w1 ∧ SpR B w w1 p K M t q s l cg ls live T0 0 w1 := by
  refine (NewScan_any p t hl (by have := hS.len; omega) (fun k hk => hA.lt hk) hA.tab).mono fun e w1 hh => ?_
  obtain ⟨b, e1, hb, hM⟩ := hh
  exact ⟨b.q, e1, hb, s, _, b, hA.below hb, hM, rfl, FrS.refl _ _, ScR.begin hS.W, rfl⟩
theorem ends_no {sc : Sc} (h : sc.lk < 2 * t.tw) : endS t sc = false := by
  unfold endS
  rw [decide_eq_true h]
  rfl
theorem SpR.step (h : SpR B w0 w1 p K M t q s l cg ls live T0 i w) (hA : ArAt B w0 s) (hb : w0.heap.size ≤ w1.heap.size) (hS : ScOk K M t s cg ls live l T0) (hp : PlS K M p) (hi : i + 1 < 2 * t.tw) :
    Calls Tryd.prog 15 #[.pointer (some ⟨q, 0, none⟩), ptrA B] w fun e w' => e = .returned (.bool false) ∧ SpR B w0 w1 p K M t q s l cg ls live T0 (i + 1) w' := by
  obtain ⟨s', sc, b, h1, h2, rfl, h3, h4, rfl⟩ := h
  obtain ⟨ls', T', hI, hTn, hLn⟩ := h4.I
  have hlk : sc.lk < 2 * t.tw := by omega
  obtain ⟨g1, -⟩ := h4.step hS.cl hS.T hS.T0 hS.us.1 hS.us.2 (ends_no hlk)
  have elk : (scF K M t s' sc).2.lk = sc.lk + 1 := by
    rw [scF_look hlk]
    unfold scLook
    rw [if_pos hi]
  have hlen : sc.lf.length + sc.hs.length ≤ 10000 := by
    rw [(hI.lo hlk).1, (h4.kn hlk).1]
    have := hS.len
    simpa using this
  refine (Step_any h1 h2 (scan_old hA) (Nat.le_trans hb h3.size) hp hI (hS.T.same h4.nr) hlen).mono fun e w' hh => ?_
  obtain ⟨e1, e2, e3, b', e4, e5⟩ := hh
  rw [ends_no (by rw [elk]; exact hi)] at e1
  exact ⟨e1, _, _, b', e2, e5, e4, h3.trans e3, g1, elk⟩
theorem SpR.uses (h : SpR B w0 w1 p K M t q s l cg ls live T0 i w) : ∃ s', ArAt B w s' := by
  obtain ⟨s', sc, b, h1, -⟩ := h
  exact ⟨s', h1⟩
theorem SpR.run (h : SpR B w0 w1 p K M t q s l cg ls live T0 i w) (hA : ArAt B w0 s) (hb : Below w0.heap.size w0 w1) (hS : ScOk K M t s cg ls live l T0) (hp : PlS K M p) (hi : i < 2 * t.tw) :
    Calls Tryd.prog 16 #[ptrA B, ifSc q] w (ScanP B p K M t cg ls live l T0 s w0 q) := by
  obtain ⟨s', sc, b, h1, h2, rfl, h3, h4, rfl⟩ := h
  have hrem : rem t sc ≤ 2000 := by
    have := hS.few
    unfold rem
    rw [(h4.kn hi).1]
    omega
  refine (runSc h1 h2 (ScR.goes (live := live) (cg := cg) (ls0 := ls) (s0 := s) hS.cl hS.T hS.T0 hS.us.1 hS.us.2 hS.len) hp (scan_old hA) (Nat.le_trans hb.size h3.size) ⟨rfl, h4, ends_no hi⟩ hrem).mono fun e w3 hh => ?_
  obtain ⟨e2, s2, sc2, b', hR, he, hA2, hM2, hq, hF⟩ := hh
  obtain ⟨x1, x2⟩ := hR.end_ (fun x hx => hS.W.waits hx) (fun x hx => hS.W.lives hx) he
  obtain ⟨ls', T', hI, -⟩ := hR.I
  have := hI.lk
  have := hS.T.tw
  exact ⟨e2, s2, ⟨_, sc2, b', hq, hM2, x1, he, by omega, hA2⟩, x2, FrA.of_B hb (h3.trans hF) (Nat.le_refl _)⟩
/-- what is free, by its length -/
theorem list_wx {i0 T : Nat} {wt : List Int} (hA : ArAt B w s) (hp : PlS K M p) (hW : Wx K M s i0 cg ls live wt none none T) (hM : M ≤ 9000) {k c : Nat} (hk : 4 * k + c < K) (hc : c < 4) :
    Calls Tryd.prog 19 #[ptrA B, p.v, .int .i64 (k : Int), .int .i64 (c : Int)] w fun e w' => ∃ a cap u, e = .returned (.slice a (ls (4 * k + c)).length cap) ∧ ArAt B w' (usedA s u) ∧ FrA B w w' := by
  obtain ⟨⟨k', hd, lk, gn, cl, own, mc, h1, -⟩, -⟩ := hW
  have hm := hp.most
  refine (List_any (k := 4 * k + c) hA h1.I.rw.toRwL hp.k hk (by rw [headF_eq hp.k (by omega) (by omega) (by omega) (by omega)]; omega) (h1.I.L _ hk) hM).mono fun e w' hh => ?_
  obtain ⟨v, u, e1, hl⟩ := hh
  obtain ⟨a, cap, hv⟩ := A9.own_any hl.row
  rw [basesF_len] at hv
  subst hv
  exact ⟨a, cap, u, e1, hl.ar, hl.fr⟩
end
/-- how far the ones that are left are told -/
def lfA (g : Int → Bool) (l : List Int) (i : Nat) : Nat := ((l.take i).filter g).length
section
variable {g : Int → Bool} {l : List Int} {i : Nat} {x : Int}
theorem lfA_zero : lfA g l 0 = 0 := rfl
theorem filter_at {a b : List Int} (hg : g x = true) : ((a ++ x :: b).filter g)[(a.filter g).length]? = some x := by
  rw [List.filter_append, List.filter_cons_of_pos hg, List.getElem?_append_right (Nat.le_refl _)]
  simp
theorem lfA_yes (hx : l[i]? = some x) (hg : g x = true) : lfA g l (i + 1) = lfA g l i + 1 ∧ (l.filter g)[lfA g l i]? = some x := by
  obtain ⟨h1, h2⟩ := List.getElem?_eq_some_iff.1 hx
  have e1 : l.take (i + 1) = l.take i ++ [x] := by rw [List.take_add_one, hx]; rfl
  have e2 : l.take i ++ x :: l.drop (i + 1) = l := by rw [← h2, ← List.drop_eq_getElem_cons h1, List.take_append_drop]
  constructor
  · unfold lfA
    rw [e1, List.filter_append]
    simp [hg]
  · have h := filter_at (g := g) (x := x) (a := l.take i) (b := l.drop (i + 1)) hg
    rw [e2] at h
    exact h
theorem lfA_no (hx : l[i]? = some x) (hg : g x = false) : lfA g l (i + 1) = lfA g l i := by
  have e1 : l.take (i + 1) = l.take i ++ [x] := by rw [List.take_add_one, hx]; rfl
  unfold lfA
  rw [e1, List.filter_append]
  simp [hg]
theorem lfA_all (h : l.length ≤ i) : lfA g l i = (l.filter g).length := by
  unfold lfA
  rw [List.take_of_length_le h]
theorem lfA_le : lfA g l i ≤ (l.filter g).length := by
  unfold lfA
  exact ((List.take_sublist i l).filter g).length_le
end
end Go.Proofs.YtopnkfbcphbbiaaDoor
namespace Go.Proofs.YtopnkfbcphbbiaaDoor
open Go.RowKit
open H8 (okP sizeF HTab below_then placeI placeI_bd place_any)
open A9 (Ab ArAt FrA Ar setRawA ptrA NAt)
open F0 (Pl5 plBox)
open S1 (RowO PlS plK plK_ok grs)

set_option maxHeartbeats 4000000 in
set_option maxRecDepth 4000 in
theorem scans_zero (a0 a1 : Int) (v2 v3 : Value) (w : World) (h : placeI a1 20 = 0) (hT : HTab w) : Calls Tryd.prog 3 #[.int .i64 a0, .int .i64 a1, v2, v3] w fun e w' => e = .returned (.bool true) ∧ Below w.heap.size w w' := by
  have P0 := fun wx => place_any a0 8 wx (by omega) (by omega)
  have P1 := fun wx => place_any a1 20 wx (by omega) (by omega)
  obtain ⟨y, hy, hy4⟩ := place_nat a0 8 (by omega)
  rw [show ((8 : Nat) : Int) = 8 from rfl] at hy
  rw [hy] at P0
  rw [h] at P1
  clear hy h
  obtain ⟨k, hk⟩ : ∃ n, n = 1 + y := ⟨_, rfl⟩
  have hkI : (1 : Int) + (y : Int) = (k : Int) := by omega
  have hkW : wrap64 (k : Int) = (k : Int) := A9.wr64_id (by omega) (by omega)
  have kM : ∀ wx, HTab wx → Calls Tryd.prog 9 #[.int .i64 (k : Int), .int .i64 0] wx (MadeP wx k 0) := fun wx hx => make1_any (w := wx) (k := k) (n := 0) hx (by omega) (by omega) (by omega)
  have HT : Hid (HTab w) := hT
  clear hT hk hy4
  go_enter Tryd.func3, Tryd.ntmps3
  go_wp2_with fail
  refine (P0 _).mono ?_
  rintro e w ⟨rfl, rfl⟩
  go_wp2_with fail
  refine (P1 _).mono ?_
  rintro e w ⟨rfl, rfl⟩
  go_wp2_with fail
  refine (kM _ HT.out).mono ?_
  rintro e w1 ⟨B, s, v, l, rfl, hA, hI, hnr, hrow, hb, hBo, hv⟩
  generalize plK k (8 * 0) = p
  unfold Pl5.v
  generalize ((4 * k + grs (8 * 0) + grs (8 * 0) + 1 : Nat) : Int) = X
  have HB : Hid (Below w.heap.size w w1) := hb
  clear kM P0 P1 hA hI hnr hrow hb hBo hv hkI hkW
  go_wp2_with fail
  refine (awake_any _ (((HT.out.below HB.out).alloc _).alloc _)).mono ?_
  rintro e w2 ⟨rfl, hb2⟩
  go_wp2_with fail
  go_ret
  exact ⟨rfl, below_then ((HB.out.alloc HB.out.size _).alloc (by have := HB.out.size; simp; omega) _) hb2⟩
set_option maxHeartbeats 16000000 in
set_option maxRecDepth 8000 in
theorem scans_some (a0 a1 : Int) (ad : Option Addr) (len cap0 : Nat) (hl : len ≤ 9223372036854775807) (tw : Value) (w : World) (n : Nat) (h : placeI a1 20 = n) (hn1 : 1 ≤ n) (hn : n ≤ 19) (hN : NAt w ad len) (hT : HTab w) : Calls Tryd.prog 3 #[.int .i64 a0, .int .i64 a1, .slice ad len cap0, tw] w fun e w' => e = .returned (.bool true) ∧ Below w.heap.size w w' := by
  have P0 := fun wx => place_any a0 8 wx (by omega) (by omega)
  have P1 := fun wx => place_any a1 20 wx (by omega) (by omega)
  have Pv := fun z wx => place_any z 1048576 wx (by omega) (by omega)
  obtain ⟨y, hy, hy4⟩ := place_nat a0 8 (by omega)
  rw [show ((8 : Nat) : Int) = 8 from rfl] at hy
  rw [hy] at P0
  rw [h] at P1
  clear hy h
  obtain ⟨k, hk⟩ : ∃ n, n = 1 + y := ⟨_, rfl⟩
  have hkI : (1 : Int) + (y : Int) = (k : Int) := by omega
  have hkW : wrap64 (k : Int) = (k : Int) := A9.wr64_id (by omega) (by omega)
  have hk8 : k ≤ 8 := by omega
  have HK : Hid (1 ≤ k ∧ k ≤ 8 ∧ 1 ≤ n ∧ n ≤ 19) := ⟨by omega, by omega, by omega, by omega⟩
  have kM := fun wx (hx : HTab wx) => make2_any (w := wx) (k := k) (n := n) hx (by omega) (by omega) (by omega) (by omega)
  have HT : Hid (HTab w) := hT
  have hn0 : ¬ (n : Int) = 0 := by omega
  have hn0b : ((n : Int) == 0) = false := by simpa using hn0
  clear hT hk hy4
  go_enter Tryd.func3, Tryd.ntmps3
  go_wp2_with fail
  refine (P0 _).mono ?_
  rintro e w ⟨rfl, rfl⟩
  go_wp2_with fail
  refine (P1 _).mono ?_
  rintro e w ⟨rfl, rfl⟩
  go_wp2_with fail
  refine (kM _ HT.out).mono ?_
  rintro e w1 ⟨B, s, l, r, off, cap, X, p, rfl, hX, hc1, hc2, hp, hR, hfar, hL⟩
  have HX : Hid (X = wAt k n ∧ PlS (4 * k) (grs (8 * n)) p ∧ X ≤ 100000 ∧ l.length = n ∧ l.Nodup ∧ (∀ y, y ∈ l → y ≠ 0)) := ⟨hX, hp, by rw [hX]; have := grs_8 n; have := HK.out; unfold wAt; omega, hR.len, hR.nd HK.out.1, fun y hy => (hR.nm y hy).2⟩
  have HR : Hid (SaR B w p k X w1.heap.size (w1.heap.size + 1) (w1.heap.size + 1 + 1) n (.slice (some ⟨r, off, none⟩) n cap) l 0 (((w1.alloc (.cells #[.int .i64 p.wk, .int .i64 p.hd, .int .i64 p.ln, .int .i64 p.gn, .int .i64 p.cv] 26 (0, 0))).alloc (.cells #[.int .i64 (k : Int), .int .i64 (X : Int)] 28 (0, 0))).alloc (.cells (Array.replicate 20 (.bool false)) 32 (0, 0)))) := by
    have h := Xk.begin hL
    rw [show ((w1.alloc (.cells #[.int .i64 p.wk, .int .i64 p.hd, .int .i64 p.ln, .int .i64 p.gn, .int .i64 p.cv] 26 (0, 0))).alloc (.cells #[.int .i64 (k : Int), .int .i64 (X : Int)] 28 (0, 0))).heap.size = w1.heap.size + 1 + 1 by simp] at h
    exact ⟨s, _, h, hR, Nm1.start fun j hj => hfar _ (by omega)⟩
  clear hX hp hR hfar hL kM P0 P1
  go_wp2_with fail
  obtain ⟨w2, hw2⟩ : ∃ w2, w2 = ((w1.alloc (.cells #[.int .i64 p.wk, .int .i64 p.hd, .int .i64 p.ln, .int .i64 p.gn, .int .i64 p.cv] 26 (0, 0))).alloc (.cells #[.int .i64 (k : Int), .int .i64 (X : Int)] 28 (0, 0))).alloc (.cells #[.bool false, .bool false, .bool false, .bool false, .bool false, .bool false, .bool false, .bool false, .bool false, .bool false, .bool false, .bool false, .bool false, .bool false, .bool false, .bool false, .bool false, .bool false, .bool false, .bool false] 32 (0, 0)) := ⟨_, rfl⟩
  have HR : Hid (SaR B w p k X w1.heap.size (w1.heap.size + 1) (w1.heap.size + 1 + 1) n (.slice (some ⟨r, off, none⟩) n cap) l 0 w2) := by
    rw [hw2]
    exact HR
  rw [← hw2]
  clear hw2 hkI hkW
  generalize w1.heap.size + 1 + 1 = b4 at *
  generalize w1.heap.size + 1 = b3 at *
  generalize w1.heap.size = b2 at *
  go_loopw [16] (fun iv wr => ∃ i : Nat, i ≤ 16 ∧ i ≤ 2 * k ∧ i ≤ len ∧ iv = .int .i64 i ∧ SaR B w p k X b2 b3 b4 n (.slice (some ⟨r, off, none⟩) n cap) l i wr) (fun iv _ => 16 - (intOf iv).toNat)
  case atStart => exact ⟨0, by omega, by omega, by omega, rfl, HR.out⟩
  case round =>
    obtain ⟨i, hi16, hi, hil, rfl, s, f, hXk, hRt, hNm⟩ := hrel
    clear HR
    obtain ⟨wq, rfl⟩ : ∃ W, W = wr := ⟨wr, rfl⟩
    by_cases hlt : i < len ∧ i < 2 * k
    · obtain ⟨hlt, hlt5⟩ := hlt
      obtain ⟨b, o, z, rfl, hcz⟩ := hN.low hXk.lw.low i hlt
      have HN0 : Hid (NAt w (some ⟨b, o, none⟩) len) := hN
      have HY : Hid (Xk B w wq s p k X b2 b3 b4 (.slice (some ⟨r, off, none⟩) n cap) l f ∧ Rt k n s l (200 * n + i) ∧ Nm1 s X k l f i ∧ i < 2 * k) := ⟨hXk, hRt, hNm, hlt5⟩
      have hli : (i : Int) < (len : Int) := by omega
      have hlk : (i : Int) < (k : Int) * 2 := by omega
      obtain ⟨v1, v2⟩ := placeI_bd z 1048576 (by omega)
      have Pz := fun wx => Pv z wx
      generalize placeI z 1048576 = v at *
      have hlt2 : i < len := hlt
      clear hN hXk hRt hNm hi hil hi16 hlt hlt5 Pv
      by_cases hev : v % 2 = 0
      · as_aux_lemma =>
          obtain ⟨q, hq, hqn⟩ : ∃ q : Nat, v / 2 % (n : Int) = (q : Int) ∧ q < n := ⟨(v / 2 % (n : Int)).toNat, by have := Int.emod_nonneg (v / 2) hn0; omega, by have := Int.emod_nonneg (v / 2) hn0; have := Int.emod_lt_of_pos (v / 2) (show (0 : Int) < (n : Int) by have := HK.out; omega); omega⟩
          obtain ⟨x, hx⟩ : ∃ x, l[q]? = some x := ⟨_, List.getElem?_eq_getElem (by rw [HX.out.2.2.2.1]; exact hqn)⟩
          go_upto_region 12 with (go_at_call 8; refine (Pz _).mono ?_; rintro e wz ⟨rfl, rfl⟩)
          rw [hq]
          clear hq hcz Pz v1 v2 hev hli hlk hn0b
          have HQ : Hid (l[q]? = some x ∧ q < n) := ⟨hx, hqn⟩
          have hqI : (0 : Int) ≤ (q : Int) := by omega
          have hq20 : (q : Int) < 20 := by have := HK.out; omega
          have hqn2 : (q : Int) < (n : Int) := by omega
          have c4 : wz.cell? ⟨b4, q, none⟩ = some (.bool (f q)) := HY.out.1.mark (by have := HK.out; omega)
          have f4 := HY.out.1.froz q
          obtain ⟨wy, hwy⟩ : ∃ wy, wy = wz.setCell ⟨b4, q, none⟩ (.bool true) := ⟨_, rfl⟩
          have HZ : Hid (Xk B w wy s p k X b2 b3 b4 (.slice (some ⟨r, off, none⟩) n cap) l fun j => if j = q then true else f j) := by rw [hwy]; exact HY.out.1.set q true
          have c2 := HZ.out.lw.c30
          have c3 := HZ.out.lw.c31
          have c5 := row_cell HZ.out.lw.row hx
          have HM0 : Hid (IntKind.i64.wrap ((i : Int) / 2) = (i : Int) / 2) := by show IntKind.i64.wrap ((i : Int) / 2) = _; rw [IntKind.wrap_i64]; have := HY.out.2.2.2; have := HK.out; omega
          have HM1 : Hid ((i : Int).tmod 2 = (i : Int) % 2) := by show (i : Int).tmod 2 = _; rw [Int.tmod_eq_emod_of_nonneg (by omega)]
          have hmw : IntKind.i64.wrap ((i : Int).tmod 2) = (i : Int) % 2 := by rw [HM1.out, IntKind.wrap_i64]; have := HY.out.2.2.2; have := HK.out; omega
          have kW := fun wx y1 y2 (h1 : y1 = (i : Int) / 2) (h2 : y2 = (i : Int) % 2) => (by rw [h1, h2]; exact Word_ith (k : Int) X i (by have := HX.out; omega) (by have := HY.out.2.2.2; have := HK.out; omega) wx : Calls Tryd.prog 12 #[.agg #[.int .i64 (k : Int), .int .i64 (X : Int)], .int .i64 y1, .int .i64 y2] wx fun e w' => e = .returned (.int .i64 ((X + i : Nat) : Int)) ∧ Below wx.heap.size wx w')
          have kS := fun wx (hx : Xk B w wx s p k X b2 b3 b4 (.slice (some ⟨r, off, none⟩) n cap) l fun j => if j = q then true else f j) => set_wordX hx HX.out.1 HY.out.2.1 HY.out.2.2.2 (by have := HY.out.2.2.2; have := HK.out; omega) x
          generalize ((X + i : Nat) : Int) = xi at *
          clear hx hqn
          go_upto_region 13 with fail
          rw [← hwy]
          clear hwy c4 f4
          go_region_held3 (fun w' => w'.cell? ⟨b3, 0, none⟩ = some (.int .i64 (k : Int)) ∧ w'.cell? ⟨b3, 1, none⟩ = some (.int .i64 (X : Int)) ∧ w'.cell? ⟨r, off + q, none⟩ = some (.int .i64 x)) (first | exact ⟨c2, c3, c5⟩ | exact hS1 | exact hS2) (first
            | (go_at_call 12; refine (kW _ _ _ (by first | rfl | exact HM0.out) (by first | rfl | exact HM1.out)).mono ?_; rintro e w3 ⟨rfl, hb3⟩; have HL3 : Hid (Xk B w w3 s p k X b2 b3 b4 (.slice (some ⟨r, off, none⟩) n cap) l fun j => if j = q then true else f j) := (by first | exact HZ.out.below hb3 | exact (HZ.out.below (Below.refl _ _).drew).below hb3); have hS1 := (show _ ∧ _ ∧ _ from ⟨HL3.out.lw.c30, HL3.out.lw.c31, row_cell HL3.out.lw.row HQ.out.1⟩); clear hb3)
            | (go_at_call 11; refine (kS _ (by first | exact HL3.out | exact HL3.out.below (Below.refl _ _).drew)).mono ?_; rintro e w4 ⟨rfl, s4, hL4, hR4, hw4⟩; have HE : Hid (SaR B w p k X b2 b3 b4 n (.slice (some ⟨r, off, none⟩) n cap) l (i + 1) w4) := ⟨s4, _, hL4, hR4, HY.out.2.2.1.put HY.out.2.2.2 HX.out.2.2.2.2.2 HQ.out.1 hw4⟩; have hS2 := (show _ ∧ _ ∧ _ from ⟨hL4.lw.c30, hL4.lw.c31, row_cell hL4.lw.row HQ.out.1⟩); clear hL4 hR4 hw4))
          clear kW kS c2 c3 c5 hS1 hS2 HL3 hmw HM0 HM1
          go_wp2_with fail
          go_roundw
          case rel => exact ⟨i + 1, by have := HY.out.2.2.2; have := HK.out; omega, by have := HY.out.2.2.2; omega, by omega, by go_num, HE.out⟩
          case measure => simp [intOf]; have := HY.out.2.2.2; have := HK.out; omega
      · as_aux_lemma =>
          go_wp2_with (go_at_call 8; refine (Pz _).mono ?_; rintro e wz ⟨rfl, rfl⟩)
          go_roundw
          case rel => exact ⟨i + 1, by have := HY.out.2.2.2; have := HK.out; omega, by have := HY.out.2.2.2; omega, by omega, by go_num, s, f, HY.out.1, HY.out.2.1.wide (by omega), HY.out.2.2.1.skip⟩
          case measure => simp [intOf]; have := HY.out.2.2.2; have := HK.out; omega
    · have hX := HX.out.1
      have HO : Hid (ScOk (4 * k) (grs (8 * n)) ⟨X, k, k - 1⟩ s n (fun _ => []) [] l (3 * n)) := by
        have h := hRt.ok (wk := k - 1) HK.out.1 (by have := HK.out; omega) (by have := HK.out; omega) (by have := HK.out; omega) (by have := HK.out; omega)
        rw [hX]
        exact h
      have HY : Hid (Xk B w wq.drew s p k X b2 b3 b4 (.slice (some ⟨r, off, none⟩) n cap) l f ∧ Rt k n s l (200 * n + i) ∧ Nm1 s X k l f i ∧ i ≤ 16) := ⟨hXk.below (Below.refl _ _).drew, hRt, hNm, hi16⟩
      obtain ⟨va, wa, hra, hrowa, hba⟩ := run_cp0 (w := wq.drew) 22 (cap := cap) (l := l) (by rw [HX.out.2.2.2.1]; have := HK.out; omega) (row_src HY.out.1.lw.row)
      rw [HX.out.2.2.2.1] at hra
      have HA : Hid (Xk B w wa s p k X b2 b3 b4 (.slice (some ⟨r, off, none⟩) n cap) l f) := HY.out.1.below hba
      have kB := SpR.begin (p := p) (t := ⟨X, k, k - 1⟩) HA.out.lw.ar HO.out hrowa
      unfold Pl5.v at kB
      have HS : Hid (wq.cell? ⟨b3, 0, none⟩ = some (.int .i64 (k : Int)) ∧ wq.cell? ⟨b3, 1, none⟩ = some (.int .i64 (X : Int)) ∧ wq.cell? ⟨b2, 0, none⟩ = some (.int .i64 p.wk) ∧ wq.cell? ⟨b2, 1, none⟩ = some (.int .i64 p.hd) ∧ wq.cell? ⟨b2, 2, none⟩ = some (.int .i64 p.ln) ∧ wq.cell? ⟨b2, 3, none⟩ = some (.int .i64 p.gn) ∧ wq.cell? ⟨b2, 4, none⟩ = some (.int .i64 p.cv)) := ⟨hXk.lw.c30, hXk.lw.c31, hXk.lw.c2⟩
      have hkw : IntKind.i64.wrap ((k : Int) - 1) = ((k - 1 : Nat) : Int) := by rw [IntKind.wrap_i64]; have := HK.out; omega
      have hor : ¬ (i : Int) < (len : Int) ∨ (i : Int) < (len : Int) ∧ ¬ (i : Int) < (k : Int) * 2 := by omega
      clear hXk hRt hNm hX hlt hi hil hi16 Pv hN hrowa hba
      rcases hor with h1 | ⟨h1, h2⟩
      all_goals
        as_aux_lemma =>
          go_upto_region 14 with fail
          refine wp_region_held_drew (S := fun w' => w'.cell? ⟨b3, 0, none⟩ = some (.int .i64 (k : Int)) ∧ w'.cell? ⟨b3, 1, none⟩ = some (.int .i64 (X : Int)) ∧ w'.cell? ⟨b2, 0, none⟩ = some (.int .i64 p.wk) ∧ w'.cell? ⟨b2, 1, none⟩ = some (.int .i64 p.hd) ∧ w'.cell? ⟨b2, 2, none⟩ = some (.int .i64 p.ln) ∧ w'.cell? ⟨b2, 3, none⟩ = some (.int .i64 p.gn) ∧ w'.cell? ⟨b2, 4, none⟩ = some (.int .i64 p.cv)) (by kernel_rfl) HS.out (fun _ => ?_)
          refine wpAnyH_take (i := 0) (oi := { dst := some 87, op := Op.load 28 (Operand.tmp 13), type := 28, pos := "law.go:78", after := #[], guard := none }) (v := .agg #[.int .i64 (k : Int), .int .i64 (X : Int)]) (by kernel_rfl) (by kernel_rfl) (by kernel_rfl) (by kernel_rfl) (fun _ _ _ h => h) (.inl ⟨by kernel_rfl, fun w hw => by go_split_ands; go_simp⟩) HS.out ?_
          refine wpAnyH_take (i := 1) (oi := { dst := some 88, op := Op.load 26 (Operand.tmp 12), type := 26, pos := "law.go:78", after := #[], guard := none }) (v := .agg #[.int .i64 p.wk, .int .i64 p.hd, .int .i64 p.ln, .int .i64 p.gn, .int .i64 p.cv]) (by kernel_rfl) (by kernel_rfl) (by kernel_rfl) (by kernel_rfl) (fun _ _ _ h => h) (.inl ⟨by kernel_rfl, fun w hw => by go_split_ands; go_simp⟩) HS.out ?_
          refine wpAnyH_take (i := 2) (oi := { dst := some 89, op := Op.move (Operand.tmp 9), type := 3, pos := "law.go:78", after := #[], guard := none }) (v := .int .i64 (k : Int)) (by kernel_rfl) (by kernel_rfl) (by kernel_rfl) (by kernel_rfl) (fun _ _ _ h => h) (.inl ⟨by kernel_rfl, fun w hw => by kernel_rfl⟩) HS.out ?_
          refine wpAnyH_take (i := 3) (oi := { dst := some 90, op := Op.binOp BinOp.sub 3 (Operand.tmp 89) (Operand.const (Value.int IntKind.i64 1)) 3, type := 3, pos := "law.go:78", after := #[{ on := 2, ground := Ground.data }], guard := none }) (v := .int .i64 ((k - 1 : Nat) : Int)) (by kernel_rfl) (by kernel_rfl) (by kernel_rfl) (by kernel_rfl) (fun _ _ _ h => h) (.inl ⟨by kernel_rfl, fun w hw => by go_simp⟩) HS.out ?_
          refine wpAnyH_take (i := 4) (oi := { dst := some 91, op := Op.move (Operand.tmp 14), type := 22, pos := "law.go:78", after := #[], guard := none }) (v := .slice (some ⟨r, off, none⟩) n cap) (by kernel_rfl) (by kernel_rfl) (by kernel_rfl) (by kernel_rfl) (fun _ _ _ h => h) (.inl ⟨by kernel_rfl, fun w hw => by kernel_rfl⟩) HS.out ?_
          refine wpAnyH_one (i := 5) (o := { dst := some 92, op := Op.call { callee := Callee.builtin Builtin.append, args := #[Operand.const (Value.slice none 0 0), Operand.tmp 91], argTypes := #[22, 22] }, type := 22, pos := "law.go:78", after := #[{ on := 4, ground := Ground.data }], guard := none }) (by kernel_rfl) (by kernel_rfl) (by kernel_rfl) ?_
          refine wp_app _ _ rfl (by kernel_rfl) (by kernel_rfl) hra ?_
          clear hra
          go_wp2_with fail
          refine ⟨⟨HA.out.lw.c30, HA.out.lw.c31, HA.out.lw.c2⟩, ?_⟩
          refine wpAnyH_one (i := 6) (o := { dst := some 93, op := Op.call { callee := Callee.value (Operand.func 13), args := #[Operand.tmp 87, Operand.tmp 88, Operand.tmp 90, Operand.tmp 92], argTypes := #[28, 26, 3, 22] }, type := 34, pos := "law.go:78", after := #[{ on := 0, ground := Ground.data }, { on := 1, ground := Ground.data }, { on := 3, ground := Ground.data }, { on := 5, ground := Ground.data }, { on := 5, ground := Ground.chain }], guard := none }) (by kernel_rfl) (by kernel_rfl) (by kernel_rfl) ?_
          go_wp2_with fail
          refine kB.mono ?_
          rintro e w3 ⟨qs, rfl, hb3, hSp⟩
          have HB : Hid (Xk B w w3 s p k X b2 b3 b4 (.slice (some ⟨r, off, none⟩) n cap) l f ∧ Below wa.heap.size wa w3 ∧ SpR B wa w3 p (4 * k) (grs (8 * n)) ⟨X, k, k - 1⟩ qs s l n (fun _ => []) [] (3 * n) 0 w3) := ⟨HA.out.below hb3, hb3, hSp⟩
          clear kB hkw hb3 hSp
          go_wp2_with fail
          refine ⟨⟨HB.out.1.lw.c30, HB.out.1.lw.c31, HB.out.1.lw.c2⟩, ?_⟩
          refine wpAnyH_one (i := 7) (o := { dst := some 19, op := Op.assign (Operand.tmp 93), type := 34, pos := "law.go:78", after := #[{ on := 6, ground := Ground.data }, { on := 6, ground := Ground.chain }, { on := 0, ground := Ground.phase }, { on := 1, ground := Ground.phase }, { on := 2, ground := Ground.phase }, { on := 3, ground := Ground.phase }, { on := 4, ground := Ground.phase }, { on := 5, ground := Ground.phase }, { on := 6, ground := Ground.phase }], guard := none }) (by kernel_rfl) (by kernel_rfl) (by kernel_rfl) ?_
          go_wp2_with fail
          refine ⟨⟨HB.out.1.lw.c30, HB.out.1.lw.c31, HB.out.1.lw.c2⟩, ?_⟩
          refine wpAnyH_done (by kernel_rfl) ?_ _
          have kU := A9.Uses_any HB.out.1.lw.ar
          obtain ⟨u, hu⟩ : ∃ u, s.uses = u := ⟨_, rfl⟩
          rw [hu] at kU
          have HU : Hid (s.uses = u ∧ 0 ≤ u ∧ u ≤ 5000) := ⟨hu, by have := HY.out.2.1.us; omega, by have := HY.out.2.1.us; have := HK.out; have := HY.out.2.2.2; omega⟩
          have HS : Hid (l.length = n) := HX.out.2.2.2.1
          clear hu
          go_wp2_with fail
          refine kU.mono ?_
          rintro e wz ⟨rfl, rfl⟩
          clear kU
          go_wp2_with fail
          go_loopw [21] (fun iv wr => ∃ m : Nat, m + 1 ≤ 2 * k ∧ iv = .int .i64 m ∧ SpR B wa wz p (4 * k) (grs (8 * n)) ⟨X, k, k - 1⟩ qs s l n (fun _ => []) [] (3 * n) m wr) (fun iv _ => 16 - (intOf iv).toNat)
          case atStart => exact ⟨0, by have := HK.out; omega, rfl, HB.out.2.2⟩
          case round =>
            obtain ⟨m, hm, rfl, hSp⟩ := hrel
            obtain ⟨wm, rfl⟩ : ∃ W, W = wr := ⟨wr, rfl⟩
            by_cases hm2 : m + 1 < 2 * k
            · have hmi : (m : Int) + 1 < (k : Int) * 2 := by omega
              have kT := hSp.step HA.out.lw.ar HB.out.2.1.size HO.out HX.out.2.1 hm2
              clear hSp
              go_wp2_with fail
              refine kT.mono ?_
              rintro e w4 ⟨rfl, hSp⟩
              have HSp : Hid _ := hSp
              clear hSp kT
              go_wp2_with fail
              go_roundw
              case rel => exact ⟨m + 1, by omega, by go_num, HSp.out⟩
              case measure => simp [intOf]; have := HK.out; omega
            · have hmi : ¬ (m : Int) + 1 < (k : Int) * 2 := by omega
              have hm16 : (m : Int) < 16 := by omega
              have kR := hSp.run HA.out.lw.ar HB.out.2.1 HO.out HX.out.2.1 (show m < 2 * k by omega)
              unfold ifSc ScanP at kR
              clear hSp hm hm2
              go_wp2_with fail
              refine kR.mono ?_
              rintro e w4 ⟨rfl, s4, hD, hE, hF⟩
              have hX4 := HA.out.arena hD.ar hF
              have kU4 := A9.Uses_any hX4.lw.ar
              have hus := hE.us.1
              have kL := hD.left (by have := List.length_filter_le (nmd s ⟨X, k, k - 1⟩) l; have := HS.out; have := HK.out; omega)
              have H4 : Hid (Xk B w w4 s4 p k X b2 b3 b4 (.slice (some ⟨r, off, none⟩) n cap) l f ∧ ScE (4 * k) (grs (8 * n)) ⟨X, k, k - 1⟩ s l n (fun _ => []) [] (3 * n) s4) := ⟨hX4, hE⟩
              have huk : u + (k : Int) * 2 ≤ s4.uses := by
                have h1 : s.uses + 2 * (k : Int) ≤ s4.uses := hus
                rw [HU.out.1] at h1
                omega
              generalize s4.uses = u4 at *
              have hult : ¬ u4 < u + (k : Int) * 2 := by omega
              have hu0 := HU.out.2.1
              have hu5 := HU.out.2.2
              clear kR hD hE hF hX4 hus huk hmi hm16
              go_wp2_with fail
              refine kU4.mono ?_
              rintro e wy ⟨rfl, rfl⟩
              clear kU4
              go_wp2_with fail
              refine kL.mono ?_
              rintro e w5 ⟨v5, rfl, hr5, hb5⟩
              clear kL hult
              obtain ⟨a5, c5, rfl⟩ := hr5.len
              have H5 : Hid (Xk B w w5 s4 p k X b2 b3 b4 (.slice (some ⟨r, off, none⟩) n cap) l f ∧ RowO w5 wy.heap.size (.slice a5 (l.filter (nmd s ⟨X, k, k - 1⟩)).length c5) (l.filter (nmd s ⟨X, k, k - 1⟩))) := ⟨H4.out.1.below hb5, hr5⟩
              have HG : Hid (∀ j x, l[j]? = some x → nmd s ⟨X, k, k - 1⟩ x = f j) := fun j x hx => HY.out.2.2.1.tells HX.out.2.2.2.2.1 HX.out.2.2.2.2.2 hx
              obtain ⟨z5, hz5⟩ : ∃ z, z = (l.filter (nmd s ⟨X, k, k - 1⟩)).length := ⟨_, rfl⟩
              have HZ : Hid (z5 = (l.filter (nmd s ⟨X, k, k - 1⟩)).length ∧ z5 ≤ n) := ⟨hz5, by rw [hz5]; have := List.length_filter_le (nmd s ⟨X, k, k - 1⟩) l; have := HS.out; omega⟩
              rw [← hz5] at H5 ⊢
              clear hr5 hb5 hz5
              go_wp2_with fail
              go_loopw [22, 24] (fun av jv wr => ∃ j : Nat, j ≤ n ∧ jv = .int .i64 j ∧ av = .int .i64 ((lfA (nmd s ⟨X, k, k - 1⟩) l j : Nat) : Int) ∧ Below w5.heap.size w5 wr) (fun _ jv _ => 20 - (intOf jv).toNat)
              case atStart => exact ⟨0, by omega, rfl, rfl, Below.refl _ _⟩
              case round =>
                obtain ⟨j, hj, rfl, rfl, hbr⟩ := hrel
                obtain ⟨wj, rfl⟩ : ∃ W, W = wr := ⟨wr, rfl⟩
                have H6 : Hid (Xk B w wj s4 p k X b2 b3 b4 (.slice (some ⟨r, off, none⟩) n cap) l f ∧ RowO wj wy.heap.size (.slice a5 z5 c5) (l.filter (nmd s ⟨X, k, k - 1⟩)) ∧ Below w5.heap.size w5 wj) := ⟨H5.out.1.below hbr, H5.out.2.kept fun g hg => hbr.block g (H5.out.2.lt g hg).2, hbr⟩
                clear hbr
                by_cases hjn : j < n
                · have hji : (j : Int) < (n : Int) := by omega
                  have hj20 : (j : Int) < 20 := by have := HK.out; omega
                  have hj0 : (0 : Int) ≤ (j : Int) := by omega
                  obtain ⟨x, hx⟩ : ∃ x, l[j]? = some x := ⟨_, List.getElem?_eq_getElem (by rw [HS.out]; exact hjn)⟩
                  have cm := H6.out.1.mark (i := j) (by have := HK.out; omega)
                  have cl := row_cell H6.out.1.lw.row hx
                  have hg := HG.out j x hx
                  have hst := H4.out.2.dead x (List.mem_of_getElem? hx)
                  cases hfj : f j with
                  | true =>
                    as_aux_lemma =>
                      rw [hfj] at cm hg
                      obtain ⟨ea, el⟩ := lfA_yes hx hg
                      obtain ⟨r7, off7, cap7, e7, c7, hc7, hd7⟩ := row_at H6.out.2.1 el
                      rw [← HZ.out.1] at e7
                      have hql : lfA (nmd s ⟨X, k, k - 1⟩) l j < z5 := by
                        rw [HZ.out.1]
                        exact (List.getElem?_eq_some_iff.1 el).1
                      cases e7
                      have kS : ∀ wx, ArAt B wx s4 → Calls Tryd.prog 18 #[ptrA B, .int .i64 x] wx fun e w' => e = .returned (.int .i64 2) ∧ w' = wx := fun wx hx => by
                        have h := A9.State_any hx x
                        rw [hst, hg] at h
                        exact h
                      generalize hq : lfA (nmd s ⟨X, k, k - 1⟩) l j = q at *
                      have hqz : (q : Int) < (z5 : Int) := by omega
                      have hq0 : (0 : Int) ≤ (q : Int) := by omega
                      have hq20 : (q : Int) < 20 := by have := HZ.out.2; have := HK.out; omega
                      have hqn : ¬ (z5 : Int) ≤ (q : Int) := by omega
                      clear hx hst hg hfj el hc7 hd7
                      go_upto_region 31 with fail
                      go_region_held3 (fun w' => w'.cell? ⟨r7, off7 + q, none⟩ = some (.int .i64 x) ∧ w'.cell? ⟨r, off + j, none⟩ = some (.int .i64 x)) (first | exact ⟨c7, cl⟩ | exact hS1) (first
                        | (go_at_call 18; refine (kS _ (by first | exact H6.out.1.lw.ar | exact H6.out.1.lw.ar.below (Below.refl _ _).drew)).mono ?_; rintro e w8 ⟨rfl, rfl⟩; have hS1 := (show _ ∧ _ from ⟨c7, cl⟩)))
                      clear kS cm cl c7 hS1 hqz hqn
                      go_wp2_with fail
                      go_roundw
                      case rel => exact ⟨j + 1, by omega, by go_num, by rw [ea]; go_num, below_then H6.out.2.2 (Below.refl _ _).drew⟩
                      case measure => simp [intOf]; have := HK.out; omega
                  | false =>
                    as_aux_lemma =>
                      rw [hfj] at cm hg
                      have ea := lfA_no hx hg
                      have kS := A9.State_any H6.out.1.lw.ar x
                      rw [hst, hg] at kS
                      have kS : Calls Tryd.prog 18 #[ptrA B, .int .i64 x] wj fun e w' => e = .returned (.int .i64 0) ∧ w' = wj := kS
                      generalize hq : lfA (nmd s ⟨X, k, k - 1⟩) l j = q at *
                      clear hx hst hg hfj
                      go_wp2_with fail
                      refine kS.mono ?_
                      rintro e w6 ⟨rfl, rfl⟩
                      clear kS cm cl
                      go_wp2_with fail
                      go_roundw
                      case rel => exact ⟨j + 1, by omega, by go_num, by rw [ea], H6.out.2.2⟩
                      case measure => simp [intOf]; have := HK.out; omega
                · have hji : ¬ (j : Int) < (n : Int) := by omega
                  have hz : lfA (nmd s ⟨X, k, k - 1⟩) l j = z5 := by
                    rw [HZ.out.1]
                    exact lfA_all (by rw [HS.out]; omega)
                  rw [hz]
                  obtain ⟨lsE, TE, hWE, -, hlE⟩ := H4.out.2.W
                  have hlE : (lsE (4 * (k - 1))).length + z5 = n := by
                    rw [HZ.out.1]
                    rw [HS.out] at hlE
                    simpa using hlE
                  have kLs := list_wx (k := k - 1) (c := 0) H6.out.1.lw.ar HX.out.2.1 hWE (by have := grs_8 n; omega) (by have := HK.out; omega) (by omega)
                  rw [show 4 * (k - 1) + 0 = 4 * (k - 1) by omega, show (lsE (4 * (k - 1))).length = n - z5 by omega] at kLs
                  unfold Pl5.v at kLs
                  obtain ⟨d0, d1, d2, d3, d4⟩ := H6.out.1.lw.c2
                  have e1 : ((k - 1 : Nat) : Int) = (k : Int) - 1 := by have := HK.out; omega
                  have e2 : ((n - z5 : Nat) : Int) = (n : Int) - (z5 : Int) := by have := HZ.out.2; omega
                  have hb4 : s4.bad = false := H4.out.2.bad.trans HY.out.2.1.bad
                  rw [e1] at kLs
                  clear hWE hlE hz e1
                  rw [show ((0 : Nat) : Int) = 0 from rfl] at kLs
                  have hz20 : (z5 : Int) ≤ (n : Int) := by have := HZ.out.2; omega
                  have hz0 : (0 : Int) ≤ (z5 : Int) := by omega
                  have hn20 : (n : Int) < 20 := by have := HK.out; omega
                  go_wp2_with fail
                  refine kLs.mono ?_
                  rintro e w6 ⟨a6, c6, u6, rfl, hA6, hF6⟩
                  have H7 : Hid (Xk B w w6 (F0.usedA s4 u6) p k X b2 b3 b4 (.slice (some ⟨r, off, none⟩) n cap) l f) := H6.out.1.arena hA6 hF6
                  have kF := A9.Fault_any H7.out.lw.ar
                  rw [show (F0.usedA s4 u6).bad = false from hb4] at kF
                  clear hA6 hF6 kLs hb4 d0 d1 d2 d3 d4
                  go_wp2_with fail
                  refine kF.mono ?_
                  rintro e w7 ⟨rfl, rfl⟩
                  go_wp2_with fail
                  refine (awake_any _ (HT.out.below H7.out.lw.low)).mono ?_
                  rintro e w8 ⟨rfl, hb8⟩
                  go_wp2_with fail
                  go_ret
                  exact ⟨rfl, below_then H7.out.lw.low hb8⟩
/-- the statement, at every number of slots -/
theorem scans_walk (a0 a1 : Int) (ad : Option Addr) (len cap0 : Nat) (hl : len ≤ 9223372036854775807) (tw : Value) (w : World) (hN : NAt w ad len) (hT : HTab w) : Calls Tryd.prog 3 #[.int .i64 a0, .int .i64 a1, .slice ad len cap0, tw] w fun e w' => e = .returned (.bool true) ∧ Below w.heap.size w w' := by
  obtain ⟨n, hn, hn20⟩ := place_nat a1 20 (by omega)
  by_cases h : n = 0
  · subst h
    exact scans_zero a0 a1 _ _ w hn hT
  · exact scans_some a0 a1 ad len cap0 hl tw w n hn (by omega) (by omega) hN hT
end Go.Proofs.YtopnkfbcphbbiaaDoor
