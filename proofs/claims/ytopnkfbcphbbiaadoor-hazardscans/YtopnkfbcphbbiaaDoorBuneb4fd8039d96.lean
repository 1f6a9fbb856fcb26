/-
  Helpers: S1Yc, Zr, Zs.
-/
import Derived.Test.YtopnkfbcphbbiaaDoorBun0e4cda553716
import Derived.Test.YtopnkfbcphbbiaaDoorBun521cb5870e4b
namespace Go.Proofs.YtopnkfbcphbbiaaDoor.S1
open Go.RowKit
open H8 (okP sizeF HTab below_then packV packF isH opA opB opC)
open A9 (Ab ArAt ArMem FrA Ar rawA useA ptrA Ok9 okB bornS retireS retireA diedA diedS inS zN bN zN_bd Left9 New9 new9 cntV cntW cntW_le retire_of SrcN storeA store_in inW wr64_id opC_bd upN atW)
open F0 (Pl5 Tn FrS noT noT_new plBox plS plS_of below_next Wk upO upO_same upO_other upV upV_same upV_other headF headF_eq sumN sumN_ge)

structure Mk (k m T : Nat) (s : Ar) (own : Nat → List Int) (mc : Nat → Option Mc) : Prop where
  ex : ∃ hd lk gn cg cl ls, Sl (4 * k) (grs m) k s hd lk gn cg cl ls own mc T
  bad : s.bad = false
  nw : s.nw = m
  hi : ∀ i, k ≤ i → own i = [] ∧ mc i = none
theorem step_nw (K M : Nat) (s : Ar) (m : Mc) : (stepF K M s m).1.nw = s.nw := by
  cases m <;> simp only [stepF] <;> (repeat' split) <;> rfl
section
variable {k m T i : Nat} {s s' : Ar} {own : Nat → List Int} {mc : Nat → Option Mc}
theorem Mk.wide (h : Mk k m T s own mc) {T' : Nat} (hT : T ≤ T') : Mk k m T' s own mc := by
  obtain ⟨hd, lk, gn, cg, cl, ls, hS⟩ := h.ex
  exact ⟨⟨hd, lk, gn, cg, cl, ls, hS.wide hT⟩, h.bad, h.nw, h.hi⟩
theorem Mk.same (h : Mk k m T s own mc) (e1 : s'.raw = s.raw) (e2 : s'.nr = s.nr) (e3 : s'.nw = s.nw) (e4 : s'.st = s.st) (e5 : s'.gen = s.gen) (e6 : s'.cL = s.cL) (e7 : s'.cR = s.cR) (e8 : s'.cC = s.cC) (e9 : s'.was = s.was) (e10 : s'.bad = s.bad) : Mk k m T s' own mc := by
  obtain ⟨hd, lk, gn, cg, cl, ls, hS⟩ := h.ex
  exact ⟨⟨hd, lk, gn, cg, cl, ls, ⟨hS.I.same e1 e2 e3 e4 e5, hS.N.same e6 e7 e8 e9 e3⟩⟩, e10.trans h.bad, e3.trans h.nw, h.hi⟩
theorem Mk.use (h : Mk k m T s own mc) : Mk k m T (useA s) own mc := h.same rfl rfl rfl rfl rfl rfl rfl rfl rfl rfl
theorem Mk.live (h : Mk k m T s own mc) (hi : i < k) {a : Int} (ha : a ∈ own i) : s.st a = 1 := by
  obtain ⟨hd, lk, gn, cg, cl, ls, hS⟩ := h.ex
  exact hS.I.live i hi a ha
theorem Mk.inv (h : Mk k m T s own mc) (hi : i < k) {mm : Mc} (hm : mc i = some mm) : Inv (4 * k) (grs m) s mm T := by
  obtain ⟨hd, lk, gn, cg, cl, ls, hS⟩ := h.ex
  exact ⟨k, hd, lk, gn, cg, cl, ls, own, mc, T, i, hS, hi, hm, Nat.le_refl _⟩
theorem Mk.step (h : Mk k m T s own mc) (hO : Ok9 s) (hT : T ≤ 1000000) (hi : i < k) {mm : Mc} (hm : mc i = some mm) : Mk k m (T + 1) (stepF (4 * k) (grs m) s mm).1 (endO own i (stepF (4 * k) (grs m) s mm).2) (endM mc i (stepF (4 * k) (grs m) s mm).2) := by
  obtain ⟨hd, lk, gn, cg, cl, ls, hS⟩ := h.ex
  obtain ⟨hd', lk', gn', cg', cl', ls', h2⟩ := hS.step hO hT hi hm
  refine ⟨⟨hd', lk', gn', cg', cl', ls', h2⟩, (step_uses _ _ s mm).2.trans h.bad, (step_nw _ _ s mm).trans h.nw, fun j hj => ?_⟩
  obtain ⟨x1, x2⟩ := h.hi j hj
  have hne : j ≠ i := by omega
  cases (stepF (4 * k) (grs m) s mm).2 with
  | go m' => exact ⟨x1, (upO_other _ _ hne).trans x2⟩
  | freed => exact ⟨x1, (upO_other _ _ hne).trans x2⟩
  | refused => exact ⟨x1, (upO_other _ _ hne).trans x2⟩
  | got a => exact ⟨(upO_other _ _ hne).trans x1, (upO_other _ _ hne).trans x2⟩
theorem Mk.got (h : Mk k m T s own mc) (hO : Ok9 s) (hT : T ≤ 1000000) (hi : i < k) {mm : Mc} (hm : mc i = some mm) {a : Int} (ha : (stepF (4 * k) (grs m) s mm).2 = .got a) : a ≠ 0 := by
  obtain ⟨hd, lk, gn, cg, cl, ls, hS⟩ := h.ex
  cases mm with
  | gen c b =>
    obtain ⟨-, ok, hb, -⟩ := hS.gen hO hT hi hm
    unfold stepF at ha
    simp only [hS.I.rw.gns b hb] at ha
    cases ha
    exact nm_ne ok
  | free h i m =>
    unfold stepF at ha
    dsimp only at ha
    split at ha
    · cases ha
    · split at ha
      · cases ha
      · split at ha <;> cases ha
  | pop c i n m =>
    unfold stepF at ha
    dsimp only at ha
    split at ha
    · split at ha <;> cases ha
    · split at ha
      · cases ha
      · split at ha <;> cases ha
  | look c =>
    unfold stepF at ha
    dsimp only at ha
    split at ha <;> cases ha
  | carve c v =>
    unfold stepF at ha
    dsimp only at ha
    split at ha <;> cases ha
theorem Mk.ask (h : Mk k m T s own mc) (hi : i < k) (hm : mc i = none) {c : Nat} (hc : c < 4) : Mk k m T s own (upO mc i (some (.pop c (4 * i + c) (k - 1) ⟨0, 0, 0⟩))) := by
  obtain ⟨hd, lk, gn, cg, cl, ls, hS⟩ := h.ex
  exact ⟨⟨hd, lk, gn, cg, cl, ls, hS.ask hi hm (by omega) (by omega)⟩, h.bad, h.nw, fun j hj => ⟨(h.hi j hj).1, (upO_other _ _ (by omega)).trans (h.hi j hj).2⟩⟩
theorem Mk.retire (h : Mk k m T s own mc) (hT : T ≤ 1000000) (hi : i < k) (hm : mc i = none) {a : Int} {ys : List Int} (ho : own i = a :: ys) : Mk k m T (retireS s a) (upO own i ys) (upO mc i (some (.free a (4 * i + clN a) ⟨grN a, 0, 0⟩))) := by
  obtain ⟨hd, lk, gn, cg, cl, ls, hS⟩ := h.ex
  have hc := clN_lt a
  have h2 := hS.retire hT hi (l1 := []) (l2 := ys) ho hm (i := 4 * i + clN a) (by omega) (by omega)
  exact ⟨⟨hd, lk, gn, cg, cl, ls, h2⟩, h.bad, h.nw, fun j hj => ⟨(upO_other _ _ (by omega)).trans (h.hi j hj).1, (upO_other _ _ (by omega)).trans (h.hi j hj).2⟩⟩
theorem Mk.name (h : Mk k m T s own mc) (hO : Ok9 s) (hi : i < k) {a : Int} (ha : a ∈ own i) : isH a ∧ bN a = 8 * grN a := by
  have h1 := h.live hi ha
  obtain ⟨hd, lk, gn, cg, cl, ls, hS⟩ := h.ex
  exact ⟨(hO.fit a (by rw [h1]; decide)).1, (hS.I.seen a (by rw [h1]; decide)).1.1⟩
/-- what is carved -/
theorem Mk.cv (h : Mk k m T s own mc) : ∃ v : Int, rawA s ((4 * k + grs m + grs m : Nat) : Int) = (useA s, v) ∧ 0 ≤ v ∧ v ≤ m := by
  obtain ⟨hd, lk, gn, cg, cl, ls, hS⟩ := h.ex
  have h1 := hS.I.cap
  rw [h.nw] at h1
  exact ⟨_, rawA_cv hS.I.rw, by omega, by omega⟩
/-- what is counted -/
theorem Mk.count (h : Mk k m T s own mc) (hT : T ≤ 10000) : ∃ c l r : Nat, s.cC = (c : Int) ∧ s.cL = (l : Int) ∧ s.cR = (r : Int) ∧ c ≤ m ∧ l = sumN (fun w => szO (own w)) k ∧ l ≤ 640000 ∧ r ≤ 640000 ∧ l ≤ 64 * T := by
  obtain ⟨hd, lk, gn, cg, cl, ls, hS⟩ := h.ex
  have h1 := cntW_le s.was s.nw
  rw [h.nw] at h1
  have h2 := hS.N.bd
  have h3 := hS.N.cC
  rw [h.nw] at h3
  exact ⟨_, _, _, h3, hS.N.cL, hS.N.cR, h1, rfl, by omega, by omega, by omega⟩
end
section
variable {B : Ab} {W w w' : World} {s s' : Ar} {g : Nat} {ob ub kb : Nat} {ov : Nat → Value} {own : Nat → List Int} {mc : Nat → Option Mc} {mb : Nat → Option (Nat × Nat)} {cu ck : Nat → Value} {k m T i q x : Nat}
end
end Go.Proofs.YtopnkfbcphbbiaaDoor.S1
namespace Go.Proofs.YtopnkfbcphbbiaaDoor
open Go.RowKit
open H8 (okP sizeF HTab below_then packV packF isH)
open A9 (Ab ArAt ArMem FrA Ar rawA setRawA useA ptrA Ok9 MapI But SrcN Left9 isTab htab_keep upF src_one bN retireS New9 new9)
open F0 (Pl5 Tn PuAt PoAt FrS noT noT_new plBox plS plS_of below_next Wk Pu Po upO headF headF_eq)
open S1 (RowO MAt Mc Out FeM FeR stepF grN clN clN_lt PlS AlM AlR AlN plK plK_ok plK_wk grs newAlW ifAl Run Inv)

theorem grs_8 (n : Nat) : grs (8 * n) = n := by
  unfold grs
  omega
/-- under way: so many made -/
structure M1 (B : Ab) (W wL : World) (L : Nat) (k n b8 i : Nat) (v : Value) (lr l : List Int) (s : Ar) (w : World) : Prop where
  wk : Wk B W w s b8 (plK k (8 * n))
  low : Below wL.heap.size wL w
  hb : ∀ x, B.has x → wL.heap.size ≤ x
  old : Old B L
  g8 : b8 < wL.heap.size
  row : RowO w L v lr
  lL : wL.heap.size ≤ L
  sz : L ≤ w.heap.size
  I : MkI (4 * k) (grs (8 * n)) n s i l
  nr : s.nr = 4 * k + grs (8 * n) + grs (8 * n) + 1 + 2 * k
section
variable {B : Ab} {W wL w w' : World} {L k n b8 i : Nat} {v : Value} {l l' lr : List Int} {s s' : Ar}
theorem M1.arena {i' : Nat} (h : M1 B W wL L k n b8 i v lr l s w) (hA : ArAt B w' s') (hF : FrA B w w') (hI : MkI (4 * k) (grs (8 * n)) n s' i' l') (hn : s'.nr = s.nr) : M1 B W wL L k n b8 i' v lr l' s' w' := by
  refine ⟨h.wk.arena hA hF, ?_, h.hb, h.old, h.g8, h.row.kept fun g hg => ?_, h.lL, Nat.le_trans h.sz hF.size, hI, hn.trans h.nr⟩
  · have := h.lL
    have := h.sz
    exact ⟨hF.os.trans h.low.os, hF.tape.trans h.low.tape, hF.output.trans h.low.output, Nat.le_trans h.low.size hF.size, fun x hx => (hF.block x (by omega) fun hb => by have := h.hb x hb; omega).trans (h.low.block x hx)⟩
  · obtain ⟨x1, x2⟩ := h.row.lt g hg
    exact hF.block g x2 fun hb => by have := h.old.ar g hb; omega
theorem M1.below (h : M1 B W wL L k n b8 i v lr l s w) (hb : Below w.heap.size w w') : M1 B W wL L k n b8 i v lr l s w' := h.arena (h.wk.ar.below hb) (FrA.of_below hb) h.I rfl
/-- one is asked for: an alloc that begins, and its run -/
def AskP (B : Ab) (W : World) (k n b8 i : Nat) (l : List Int) (w0 : World) (q : Nat) (e : Ending) (w : World) : Prop :=
  e = .returned (.bool true) ∧ ∃ s a x, S1.AlAt q w (plK k (8 * n)) a ∧ a.hn = x ∧ x ≠ 0 ∧ s.st x = 1 ∧ Wk B W w s b8 (plK k (8 * n)) ∧ FrA B w0 w ∧ MkI (4 * k) (grs (8 * n)) n (retireS s x) (i + 1) (l ++ [x]) ∧ s.nr = 4 * k + grs (8 * n) + grs (8 * n) + 1 + 2 * k
theorem M1.ask (h : M1 B W wL L k n b8 i v l l s w) (hi : i < n) (hn : n ≤ 400) (hk : 1 ≤ k) (hk2 : k ≤ 100) :
    Calls Tryd.prog 24 #[(plK k (8 * n)).v, .int .i64 0, .int .i64 0] w fun e w' => ∃ q, e = .returned (.pointer (some ⟨q, 0, none⟩)) ∧ Calls Tryd.prog 16 #[ptrA B, ifAl q] w' (AskP B W k n b8 i l w q) := by
  have hp := plK_ok (a := k) (m := 8 * n) hk hk2
  refine (newAlW h.wk (k := ((0 : Nat) : Int)) (c := ((0 : Nat) : Int)) (by rw [plK_wk]; omega) (by rw [plK_wk]; omega) (S1.sizeF_pos (by omega))).mono fun e w1 hh => ?_
  obtain ⟨q, e1, hN⟩ := hh
  obtain ⟨x0, hM, hx⟩ := hN.ex
  have hal : AlR (.pop 0 0 (4 * k / 4 - 1) ⟨0, 0, 0⟩) ⟨x0, ((0 : Nat) : Int), ((0 : Nat) : Int), (plK k (8 * n)).wk - 1, 0, 0, 0⟩ ⟨headF (plK k (8 * n)) ((0 : Nat) : Int) ((0 : Nat) : Int), 0, 0, 0⟩ := by
    refine ⟨rfl, rfl, rfl, ?_, ?_, ⟨?_, rfl, fun h => by simp at h, fun h => by simp at h⟩, by omega⟩
    · show (plK k (8 * n)).wk - 1 = ((4 * k / 4 - 1 : Nat) : Int)
      rw [plK_wk]; omega
    · rfl
    · show headF (plK k (8 * n)) ((0 : Nat) : Int) ((0 : Nat) : Int) = ((0 : Nat) : Int)
      rw [headF_eq hp.k (by omega) (by omega) (by omega) (by omega)]
      rfl
  obtain ⟨a, s', x, ha, hr, hInv, hx0, hst, hnr, hI2⟩ := h.I.step hN.wk.ar.ok hi (by omega) (by omega) (by omega)
  refine ⟨q, e1, (runAl hN.wk.ar hM hal hp hInv (by omega) hr (by omega)).mono fun e w2 hh => ?_⟩
  obtain ⟨e2, hA, a', t', hM', ho, hF, hx'⟩ := hh
  have hfr := S1.frA_of hN.bel hF hN.q0 hx
  exact ⟨e2, s', a', x, hM'.al, ho.2, hx0, hst, h.wk.arena hA hfr, hfr, hI2, hnr.trans h.nr⟩
theorem M1.app {x : Int} (h : M1 B W wL L k n b8 (i + 1) v l (l ++ [x]) s w) (ty : TypeId) {ad : Option Addr} {cap : Nat} (hs : SrcN w ad 1 [x]) (hn : l.length ≤ 10000) :
    ∃ v' w', (Builtin.append_ #[22, 22] ty #[v, .slice ad 1 cap]).run Tryd.prog w = .ok v' w' ∧ M1 B W wL L k n b8 (i + 1) v' (l ++ [x]) (l ++ [x]) s w' := by
  obtain ⟨v', w', hr, ho, hkb, hsz, e1, e2, e3, hbk⟩ := h.row.app ty h.sz (cap := cap) hs hn
  have hrl := fun g hg => h.row.lt g hg
  have hlL := h.lL
  have hsz0 := h.sz
  have hkB : ∀ x, x < L → w'.heap[x]? = w.heap[x]? := fun x hx => hkb x (by omega) fun e => by have := (hrl x e).1; omega
  have hg8 := h.g8
  have hFw : FrB B L w w' := ⟨e1, e2, e3, hsz, fun x hx hn => hkB x (by
    by_cases e : x < L
    · exact e
    · exact absurd (Or.inr (Nat.le_of_not_lt e)) hn)⟩
  have hA := hFw.ar h.old hsz0 h.wk.ar fun x hx => hkB x (h.old.ar x hx)
  have hWL : W.heap.size ≤ L := Nat.le_trans h.wk.gW (by omega)
  exact ⟨v', w', hr, ⟨⟨hA, ⟨e1.trans h.wk.low.os, e2.trans h.wk.low.tape, e3.trans h.wk.low.output, Nat.le_trans h.wk.low.size hsz, fun x hx => (hkB x (by omega)).trans (h.wk.low.block x hx)⟩, h.wk.own, (hkB b8 (by omega)).trans h.wk.bx, h.wk.gB, h.wk.gW⟩, ⟨e1.trans h.low.os, e2.trans h.low.tape, e3.trans h.low.output, Nat.le_trans h.low.size hsz, fun x hx => (hkB x (by omega)).trans (h.low.block x hx)⟩, h.hb, h.old, h.g8, ho, hlL, Nat.le_trans hsz0 hsz, h.I, h.nr⟩⟩
theorem list_appM1 {ops : Array Oper} {rest : List Oper} {o : Oper} {a : Act} {Q : Exit → Act → World → Prop} (hgd : o.guard = none) (x y : Operand)
    (ho : o.op = .call { callee := .builtin .append, args := #[x, y], argTypes := #[22, 22] }) {z : Int} (h : M1 B W wL L k n b8 (i + 1) v l (l ++ [z]) s w) {ad : Option Addr} {cap : Nat} (hx : a.eval x = v) (hy : a.eval y = .slice ad 1 cap) (hs : SrcN w ad 1 [z]) (hn : l.length ≤ 10000)
    (hK : ∀ v' w', M1 B W wL L k n b8 (i + 1) v' (l ++ [z]) (l ++ [z]) s w' → wpList Tryd.prog ops Q rest (a.put o.dst v') w') : wpList Tryd.prog ops Q (o :: rest) a w := by
  refine wpList_plain hgd fun K' hK' => ?_
  obtain ⟨v', w', hr, h2⟩ := h.app o.type (cap := cap) hs hn
  unfold Oper.wp execOp
  simp only [ho, resolve, invoke, builtin, Sem.run_bind, Sem.run_pure, Result.andThen_ok, List.map_toArray, List.map_cons, List.map_nil, hx, hy, hr]
  exact hK' _ _ (hK v' w' h2)
end
end Go.Proofs.YtopnkfbcphbbiaaDoor
namespace Go.Proofs.YtopnkfbcphbbiaaDoor
open Go.RowKit
open H8 (okP sizeF HTab below_then packV packF isH)
open A9 (Ab ArAt ArMem FrA Ar rawA setRawA useA ptrA Ok9 MapI But SrcN Left9 isTab htab_keep upF src_one bN retireS New9 new9)
open F0 (Pl5 Tn PuAt PoAt FrS noT noT_new plBox plS plS_of below_next Wk Pu Po upO headF headF_eq)
open S1 (RowO MAt Mc Out FeM FeR stepF grN clN clN_lt PlS AlM AlR AlN plK plK_ok plK_wk grs newAlW ifAl Run Inv)

/-- make1's answer -/
def MadeP (w : World) (k n : Nat) (e : Ending) (w' : World) : Prop := ∃ (B : Ab) (s : Ar) (v : Value) (l : List Int), e = .returned (.tuple #[ptrA B, (plK k (8 * n)).v, .agg #[.int .i64 (k : Int), .int .i64 ((4 * k + grs (8 * n) + grs (8 * n) + 1 : Nat) : Int)], v]) ∧
  ArAt B w' s ∧ MkI (4 * k) (grs (8 * n)) n s n l ∧ s.nr = 4 * k + grs (8 * n) + grs (8 * n) + 1 + 2 * k ∧ RowO w' w.heap.size v l ∧ Below w.heap.size w w' ∧ (∀ x, B.has x → w.heap.size ≤ x) ∧ ∀ g, v.ownBlock = some g → ¬ B.has g
section
variable {w : World} {k n : Nat}
theorem boxes {wA w1 w2 : World} {p : Pl5} {k X : Nat} (hA : wA = (w.alloc (.cells #[.int .i64 0, .int .i64 0, .int .i64 0, .int .i64 0, .int .i64 0] 26 (0, 0))).alloc (.cells #[.int .i64 0, .int .i64 0] 28 (0, 0))) (h1 : Below wA.heap.size wA w1) (h2 : Below (w1.alloc (plBox p)).heap.size (w1.alloc (plBox p)) w2) :
    Below w.heap.size w (w2.alloc (.cells #[.int .i64 (k : Int), .int .i64 (X : Int)] 28 (0, 0))) ∧ (w2.alloc (.cells #[.int .i64 (k : Int), .int .i64 (X : Int)] 28 (0, 0))).heap[w.heap.size]? = some (.cells #[.int .i64 0, .int .i64 0, .int .i64 0, .int .i64 0, .int .i64 0] 26 (0, 0)) ∧ (w2.alloc (.cells #[.int .i64 (k : Int), .int .i64 (X : Int)] 28 (0, 0))).heap[w.heap.size + 1]? = some (.cells #[.int .i64 0, .int .i64 0] 28 (0, 0)) ∧ (w2.alloc (.cells #[.int .i64 (k : Int), .int .i64 (X : Int)] 28 (0, 0))).heap[w1.heap.size]? = some (plBox p) ∧ (w2.alloc (.cells #[.int .i64 (k : Int), .int .i64 (X : Int)] 28 (0, 0))).heap[w2.heap.size]? = some (.cells #[.int .i64 (k : Int), .int .i64 (X : Int)] 28 (0, 0)) ∧ w.heap.size + 2 ≤ w1.heap.size ∧ w1.heap.size < w2.heap.size ∧ w1.heap.size < (w2.alloc (.cells #[.int .i64 (k : Int), .int .i64 (X : Int)] 28 (0, 0))).heap.size := by
  have hbA : Below w.heap.size w wA := by rw [hA]; exact ((Below.refl _ _).alloc (Nat.le_refl _) _).alloc (by simp) _
  have hA1 : wA.heap[w.heap.size]? = some (.cells #[.int .i64 0, .int .i64 0, .int .i64 0, .int .i64 0, .int .i64 0] 26 (0, 0)) := by
    rw [hA]
    exact (Below.heap_alloc _ _ _ (by simp)).trans (Go.MapKept.heap_alloc w _).1
  have hA2 : wA.heap[w.heap.size + 1]? = some (.cells #[.int .i64 0, .int .i64 0] 28 (0, 0)) := by
    rw [hA]
    have := (Go.MapKept.heap_alloc (w.alloc (.cells #[.int .i64 0, .int .i64 0, .int .i64 0, .int .i64 0, .int .i64 0] 26 (0, 0))) (.cells #[.int .i64 0, .int .i64 0] 28 (0, 0))).1
    simpa using this
  have hsA : wA.heap.size = w.heap.size + 2 := by rw [hA]; simp
  have hs1 : (w1.alloc (plBox p)).heap.size = w1.heap.size + 1 := by simp
  have s1 := h1.size
  have s2 := h2.size
  have b1 : Below wA.heap.size wA (w1.alloc (plBox p)) := h1.alloc h1.size _
  have b2 : Below wA.heap.size wA w2 := below_then b1 h2
  have b3 : Below wA.heap.size wA (w2.alloc (.cells #[.int .i64 (k : Int), .int .i64 (X : Int)] 28 (0, 0))) := b2.alloc b2.size _
  have hp : w2.heap[w1.heap.size]? = some (plBox p) := (h2.block _ (by omega)).trans (Go.MapKept.heap_alloc w1 _).1
  refine ⟨below_then hbA b3, (b3.block _ (by omega)).trans hA1, (b3.block _ (by omega)).trans hA2, (Below.heap_alloc _ _ _ (by omega)).trans hp, (Go.MapKept.heap_alloc w2 _).1, by omega, by omega, ?_⟩
  simp
  omega
theorem set5 {b5 : Nat} {p : Pl5} (h5 : w.heap[b5]? = some (.cells #[.int .i64 0, .int .i64 0, .int .i64 0, .int .i64 0, .int .i64 0] 26 (0, 0))) {W : World} (hW : W = ((((w.setCell ⟨b5, 0, none⟩ (.int .i64 p.wk)).setCell ⟨b5, 1, none⟩ (.int .i64 p.hd)).setCell ⟨b5, 2, none⟩ (.int .i64 p.ln)).setCell ⟨b5, 3, none⟩ (.int .i64 p.gn)).setCell ⟨b5, 4, none⟩ (.int .i64 p.cv)) :
    W.heap[b5]? = some (plBox p) ∧ (∀ x, x ≠ b5 → W.heap[x]? = w.heap[x]?) ∧ W.heap.size = w.heap.size ∧ Below 0 w W := by
  obtain ⟨W0, e0⟩ : ∃ W0, W0 = w.setCell ⟨b5, 0, none⟩ (.int .i64 p.wk) := ⟨_, rfl⟩
  have a0 := heap_setCell_same w b5 0 _ _ (.int .i64 p.wk) h5
  have k0 : ∀ x, x ≠ b5 → W0.heap[x]? = w.heap[x]? := fun x hx => by rw [e0]; exact Below.heap_setCell _ _ _ _ hx
  have b0 : Below 0 w W0 := by rw [e0]; exact (Below.refl 0 w).setCell (Nat.zero_le _) _
  have s0 : W0.heap.size = w.heap.size := by rw [e0]; simp
  rw [← e0] at a0 hW
  clear e0
  obtain ⟨W1, e1⟩ : ∃ W1, W1 = W0.setCell ⟨b5, 1, none⟩ (.int .i64 p.hd) := ⟨_, rfl⟩
  have a1 := heap_setCell_same W0 b5 1 _ _ (.int .i64 p.hd) a0
  have k1 : ∀ x, x ≠ b5 → W1.heap[x]? = w.heap[x]? := fun x hx => by rw [e1]; exact (Below.heap_setCell _ _ _ _ hx).trans (k0 x hx)
  have b1 : Below 0 w W1 := by rw [e1]; exact b0.setCell (Nat.zero_le _) _
  have s1 : W1.heap.size = w.heap.size := by rw [e1]; simpa using s0
  rw [← e1] at a1 hW
  clear e1 a0 k0 b0 s0
  obtain ⟨W2, e2⟩ : ∃ W2, W2 = W1.setCell ⟨b5, 2, none⟩ (.int .i64 p.ln) := ⟨_, rfl⟩
  have a2 := heap_setCell_same W1 b5 2 _ _ (.int .i64 p.ln) a1
  have k2 : ∀ x, x ≠ b5 → W2.heap[x]? = w.heap[x]? := fun x hx => by rw [e2]; exact (Below.heap_setCell _ _ _ _ hx).trans (k1 x hx)
  have b2 : Below 0 w W2 := by rw [e2]; exact b1.setCell (Nat.zero_le _) _
  have s2 : W2.heap.size = w.heap.size := by rw [e2]; simpa using s1
  rw [← e2] at a2 hW
  clear e2 a1 k1 b1 s1
  obtain ⟨W3, e3⟩ : ∃ W3, W3 = W2.setCell ⟨b5, 3, none⟩ (.int .i64 p.gn) := ⟨_, rfl⟩
  have a3 := heap_setCell_same W2 b5 3 _ _ (.int .i64 p.gn) a2
  have k3 : ∀ x, x ≠ b5 → W3.heap[x]? = w.heap[x]? := fun x hx => by rw [e3]; exact (Below.heap_setCell _ _ _ _ hx).trans (k2 x hx)
  have b3 : Below 0 w W3 := by rw [e3]; exact b2.setCell (Nat.zero_le _) _
  have s3 : W3.heap.size = w.heap.size := by rw [e3]; simpa using s2
  rw [← e3] at a3 hW
  clear e3 a2 k2 b2 s2
  have a4 := heap_setCell_same W3 b5 4 _ _ (.int .i64 p.cv) a3
  rw [hW]
  exact ⟨a4, fun x hx => (Below.heap_setCell _ _ _ _ hx).trans (k3 x hx), by simpa using s3, b3.setCell (Nat.zero_le _) _⟩
theorem sets {b5 b6 : Nat} {p : Pl5} {X : Nat} (h5 : w.heap[b5]? = some (.cells #[.int .i64 0, .int .i64 0, .int .i64 0, .int .i64 0, .int .i64 0] 26 (0, 0))) (h6 : w.heap[b6]? = some (.cells #[.int .i64 0, .int .i64 0] 28 (0, 0))) (hne : b6 ≠ b5) :
    ∃ W, Hid (W = (((((((w.setCell ⟨b5, 0, none⟩ (.int .i64 p.wk)).setCell ⟨b5, 1, none⟩ (.int .i64 p.hd)).setCell ⟨b5, 2, none⟩ (.int .i64 p.ln)).setCell ⟨b5, 3, none⟩ (.int .i64 p.gn)).setCell ⟨b5, 4, none⟩ (.int .i64 p.cv)).setCell ⟨b6, 0, none⟩ (.int .i64 (k : Int))).setCell ⟨b6, 1, none⟩ (.int .i64 (X : Int))).drew) ∧ W.heap[b5]? = some (plBox p) ∧ W.heap[b6]? = some (.cells #[.int .i64 (k : Int), .int .i64 (X : Int)] 28 (0, 0)) ∧ (∀ x, x ≠ b5 → x ≠ b6 → W.heap[x]? = w.heap[x]?) ∧ W.heap.size = w.heap.size ∧ W.os = w.os ∧ W.tape = w.tape ∧ W.output = w.output := by
  obtain ⟨V, hV⟩ : ∃ V, V = ((((w.setCell ⟨b5, 0, none⟩ (.int .i64 p.wk)).setCell ⟨b5, 1, none⟩ (.int .i64 p.hd)).setCell ⟨b5, 2, none⟩ (.int .i64 p.ln)).setCell ⟨b5, 3, none⟩ (.int .i64 p.gn)).setCell ⟨b5, 4, none⟩ (.int .i64 p.cv) := ⟨_, rfl⟩
  obtain ⟨a, kk, ss, hb⟩ := set5 h5 hV
  rw [← hV]
  clear hV
  have c0 := heap_setCell_same V b6 0 _ _ (.int .i64 (k : Int)) ((kk b6 hne).trans h6)
  have c1 := heap_setCell_same _ b6 1 _ _ (.int .i64 (X : Int)) c0
  have hb2 : Below 0 w ((V.setCell ⟨b6, 0, none⟩ (.int .i64 (k : Int))).setCell ⟨b6, 1, none⟩ (.int .i64 (X : Int))).drew := ((hb.setCell (p := ⟨b6, 0, none⟩) (Nat.zero_le _) _).setCell (p := ⟨b6, 1, none⟩) (Nat.zero_le _) _).drew
  exact ⟨_, rfl, (Below.heap_setCell _ _ _ _ (Ne.symm hne)).trans ((Below.heap_setCell _ _ _ _ (Ne.symm hne)).trans a), c1, fun x x5 x6 => (Below.heap_setCell _ _ _ _ x6).trans ((Below.heap_setCell _ _ _ _ x6).trans (kk x x5)), by simpa using ss, hb2.os, hb2.tape, hb2.output⟩
theorem M1.end_ {B : Ab} {wL w' W : World} {L b8 b5 b6 : Nat} {v : Value} {l : List Int} {s : Ar} (h : M1 B w wL L k n b8 n v l l s w') (hT : HTab w) (e5 : b5 = w.heap.size) (e6 : b6 = w.heap.size + 1) (hl : w.heap.size + 2 ≤ wL.heap.size) (hk : ∀ x, x ≠ b5 → x ≠ b6 → W.heap[x]? = w'.heap[x]?) (hs : W.heap.size = w'.heap.size) (x1 : W.os = w'.os) (x2 : W.tape = w'.tape) (x3 : W.output = w'.output) :
    ArAt B W s ∧ MkI (4 * k) (grs (8 * n)) n s n l ∧ s.nr = 4 * k + grs (8 * n) + grs (8 * n) + 1 + 2 * k ∧ RowO W w.heap.size v l ∧ Below w.heap.size w W ∧ (∀ x, B.has x → w.heap.size ≤ x) ∧ ∀ g, v.ownBlock = some g → ¬ B.has g := by
  have hA := h.wk.ar
  have hlL := h.lL
  have hB : ∀ x, B.has x → W.heap[x]? = w'.heap[x]? := fun x hx => by
    have := h.hb x hx
    exact hk x (by omega) (by omega)
  refine ⟨⟨hA.toArMem.same hB (htab_keep hA.tab fun x hx => ?_), hA.ok⟩, h.I, h.nr, RowO.lower (h.row.kept fun g hg => ?_) (by omega), ?_, fun x hx => by have := h.hb x hx; omega, fun g hg hb => ?_⟩
  · have := A9.tab_lt hT _ hx
    exact hk x (by omega) (by omega)
  · have := (h.row.lt g hg).1
    exact hk g (by omega) (by omega)
  · have := h.wk.low
    exact ⟨x1.trans this.os, x2.trans this.tape, x3.trans this.output, by rw [hs]; exact this.size, fun x hx => (hk x (by omega) (by omega)).trans (this.block x hx)⟩
  · have a := (h.row.lt g hg).1
    have b := h.old.ar g hb
    omega
set_option maxHeartbeats 1000000 in
set_option maxRecDepth 4000 in
theorem make1_any (hT : HTab w) (hk : 1 ≤ k) (hk2 : k ≤ 50) (hn : n ≤ 50) : Calls Tryd.prog 9 #[.int .i64 (k : Int), .int .i64 (n : Int)] w (MadeP w k n) := by
  have hmul : wrap64 (8 * (n : Int)) = 8 * (n : Int) := A9.wr64_id (by omega) (by omega)
  have kR := fun wx => S1.Raw_k (a := k) (m := 8 * n) hk (by omega) (by omega) wx
  have hg8 := grs_8 n
  obtain ⟨X, hX⟩ : ∃ X : Nat, X = 4 * k + grs (8 * n) + grs (8 * n) + 1 := ⟨_, rfl⟩
  have hXb : X ≤ 1000 := by omega
  have kH := fun wx => HRaw_any k X (by omega) wx
  obtain ⟨Y, hY⟩ : ∃ Y : Nat, Y = 2 * k := ⟨_, rfl⟩
  have hsum : wrap64 ((X : Int) + (Y : Int)) = (X : Int) + (Y : Int) := A9.wr64_id (by omega) (by omega)
  have kN := fun wx (hx : HTab wx) => A9.New_any ((X : Int) + (Y : Int)) (8 * (n : Int)) false wx hx
  have HI0 : Hid (MkI (4 * k) (grs (8 * n)) n (new9 ((X : Int) + (Y : Int)) (8 * (n : Int)) false) 0 [] ∧ (new9 ((X : Int) + (Y : Int)) (8 * (n : Int)) false).nr = X + Y) := by
    have e : (new9 ((X : Int) + (Y : Int)) (8 * (n : Int)) false).nr = X + Y := by
      rw [show (X : Int) + (Y : Int) = ((X + Y : Nat) : Int) by simp]
      exact S1.cut_id (by omega)
    refine ⟨?_, e⟩
    have := MkI.new (K := 4 * k) (M := grs (8 * n)) (n := n) ((X : Int) + (Y : Int)) (by rw [show ((8 * n : Nat) : Int) = 8 * (n : Int) by simp, e]; omega) (by omega) (by omega) (by omega) (by omega) (by omega)
    rw [show ((8 * n : Nat) : Int) = 8 * (n : Int) by simp] at this
    exact this
  rw [← hX] at kR
  rw [← hY] at kH
  simp only [show ((8 * n : Nat) : Int) = 8 * (n : Int) by simp] at kR
  obtain ⟨p, hp⟩ : ∃ p, p = plK k (8 * n) := ⟨_, rfl⟩
  rw [← hp] at kR
  unfold Pl5.v at kR
  have HX : Hid (X = 4 * k + grs (8 * n) + grs (8 * n) + 1 ∧ Y = 2 * k ∧ p = plK k (8 * n)) := ⟨hX, hY, hp⟩
  have HT : Hid (HTab w) := hT
  clear hX hY hp hT hg8
  go_enter Tryd.func9, Tryd.ntmps9
  go_wp2_with fail
  obtain ⟨wA, HWA⟩ : ∃ wA, Hid (wA = (w.alloc (.cells #[.int .i64 0, .int .i64 0, .int .i64 0, .int .i64 0, .int .i64 0] 26 (0, 0))).alloc (.cells #[.int .i64 0, .int .i64 0] 28 (0, 0))) := ⟨_, rfl⟩
  rw [← HWA.out]
  refine (kR _).mono ?_
  rintro e w1 ⟨rfl, hb1⟩
  have HB1 : Hid (Below wA.heap.size wA w1) := hb1
  clear hb1 kR
  go_wp2_with fail
  refine (kH _).mono ?_
  rintro e w2 ⟨rfl, hb2⟩
  have HB2 : Hid _ := hb2
  clear hb2 kH
  go_wp2_with fail
  have HBX : Hid (Below w.heap.size w (w2.alloc (.cells #[.int .i64 (k : Int), .int .i64 (X : Int)] 28 (0, 0))) ∧ (w2.alloc (.cells #[.int .i64 (k : Int), .int .i64 (X : Int)] 28 (0, 0))).heap[w.heap.size]? = some (.cells #[.int .i64 0, .int .i64 0, .int .i64 0, .int .i64 0, .int .i64 0] 26 (0, 0)) ∧ (w2.alloc (.cells #[.int .i64 (k : Int), .int .i64 (X : Int)] 28 (0, 0))).heap[w.heap.size + 1]? = some (.cells #[.int .i64 0, .int .i64 0] 28 (0, 0)) ∧ (w2.alloc (.cells #[.int .i64 (k : Int), .int .i64 (X : Int)] 28 (0, 0))).heap[w1.heap.size]? = some (plBox p) ∧ (w2.alloc (.cells #[.int .i64 (k : Int), .int .i64 (X : Int)] 28 (0, 0))).heap[w2.heap.size]? = some (.cells #[.int .i64 (k : Int), .int .i64 (X : Int)] 28 (0, 0)) ∧ w.heap.size + 2 ≤ w1.heap.size ∧ w1.heap.size < w2.heap.size ∧ w1.heap.size < (w2.alloc (.cells #[.int .i64 (k : Int), .int .i64 (X : Int)] 28 (0, 0))).heap.size) := boxes HWA.out HB1.out HB2.out
  obtain ⟨b8, HG8⟩ : ∃ b8, Hid (b8 = w1.heap.size) := ⟨_, rfl⟩
  obtain ⟨b10, HG10⟩ : ∃ b10, Hid (b10 = w2.heap.size) := ⟨_, rfl⟩
  obtain ⟨b6, HG6⟩ : ∃ b6, Hid (b6 = w.heap.size + 1) := ⟨_, rfl⟩
  obtain ⟨b5, HG5⟩ : ∃ b5, Hid (b5 = w.heap.size) := ⟨_, rfl⟩
  obtain ⟨wL, HWL⟩ : ∃ wL, Hid (wL = w2.alloc (.cells #[.int .i64 (k : Int), .int .i64 (X : Int)] 28 (0, 0))) := ⟨_, rfl⟩
  rw [← HG8.out, ← HG10.out, ← HG6.out, ← HG5.out, ← HWL.out]
  rw [← HWL.out, ← HG8.out, ← HG10.out, ← HG6.out] at HBX
  clear HB1 HB2 HWA
  refine (kN _ (HT.out.below HBX.out.1)).mono ?_
  rintro e w3 ⟨B, rfl, hA3, hb3, ho3⟩
  have HM : Hid (M1 B w wL w3.heap.size k n b8 0 (.slice none 0 0) [] [] (new9 ((X : Int) + (Y : Int)) (8 * (n : Int)) false) w3) := by
    obtain ⟨x1, x2, x3, x4, x5, x6, x8, x7⟩ := HBX.out
    have hs3 := hb3.size
    rw [HX.out.2.2] at x4
    refine ⟨⟨hA3, below_then x1 hb3, fun x hx => Nat.le_trans x1.size (ho3 x hx), (hb3.block _ x7).trans x4, fun hh => by have := ho3 _ hh; omega, by omega⟩, hb3, ho3, ⟨fun x hx => hA3.lt hx, fun x hx => Nat.lt_of_lt_of_le (A9.tab_lt HT.out _ hx) (Nat.le_trans x1.size hs3)⟩, x7, RowO.nil _ _, hs3, Nat.le_refl _, HI0.out.1, ?_⟩
    rw [HI0.out.2, HX.out.1, HX.out.2.1]
  obtain ⟨L, HL⟩ : ∃ L, Hid (L = w3.heap.size) := ⟨_, rfl⟩
  rw [← HL.out] at HM
  clear hA3 hb3 ho3 kN
  obtain ⟨u, hu⟩ : ∃ u, u = (⟨B.b, 0, none⟩ : Addr) := ⟨_, rfl⟩
  go_wp2_with fail
  go_loopw [13, 14] (fun lv iv wr => ∃ (i : Nat) (l : List Int) (s : Ar), i ≤ n ∧ iv = .int .i64 i ∧ M1 B w wL L k n b8 i lv l l s wr) (fun _ iv _ => n - (intOf iv).toNat)
  case atStart => exact ⟨0, [], _, by omega, rfl, HM.out⟩
  case round =>
    obtain ⟨i, l, s, hi, rfl, hR⟩ := hrel
    clear HM
    obtain ⟨wq, rfl⟩ : ∃ W, W = wr := ⟨wr, rfl⟩
    by_cases hlt : i < n
    · have hli : (i : Int) < (n : Int) := by omega
      have kA := hR.ask hlt (by omega) hk (by omega)
      obtain ⟨e0, e1, e2, e3, e4⟩ := hR.wk.pl
      rw [← HX.out.2.2] at kA e0 e1 e2 e3 e4
      unfold Pl5.v at kA
      have HR : Hid (M1 B w wL L k n b8 i u13 l l s wq) := hR
      have HLT : Hid (i < n) := hlt
      clear hR hlt
      go_wp2_with fail
      refine kA.mono ?_
      rintro e w4 ⟨q, rfl, kRun⟩
      have hn1 := S1.nilAl ⟨q, 0, none⟩
      clear kA
      go_wp2_with fail
      refine kRun.mono ?_
      rintro e w5 ⟨rfl, s5, a5, x, hAl, rfl, hx0, hst, hW5, hF5, hI5, hn5⟩
      have kH := S1.Handle_any hAl
      have hxb : (a5.hn != 0) = true := by simpa using hx0
      rw [hxb] at kH
      have H5 : Hid (s5.st a5.hn = 1 ∧ ArAt B w5 s5 ∧ FrA B wq w5 ∧ MkI (4 * k) (grs (8 * n)) n (retireS s5 a5.hn) (i + 1) (l ++ [a5.hn]) ∧ s5.nr = 4 * k + grs (8 * n) + grs (8 * n) + 1 + 2 * k) := ⟨hst, hW5.ar, hF5, hI5, hn5⟩
      clear hAl hx0 hst hW5 hF5 hI5 hn5 kRun hxb
      generalize a5.hn = x at *
      go_wp2_with fail
      refine kH.mono ?_
      rintro e w6 ⟨rfl, hb6⟩
      have kT := A9.Retire_any (H5.out.2.1.below hb6) x
      rw [A9.retire_of H5.out.1] at kT
      have HF6 : Hid (FrA B wq w6) := H5.out.2.2.1.trans (FrA.of_below hb6)
      clear hb6 kH
      go_wp2_with fail
      refine kT.mono ?_
      rintro e w7 ⟨rfl, hA7, hF7⟩
      have hM7 := HR.out.arena hA7 (HF6.out.trans hF7) H5.out.2.2.2.1 (H5.out.2.2.2.2.trans HR.out.nr.symm)
      have hsrc := src_one w7 x
      have HM7 : Hid (M1 B w wL L k n b8 (i + 1) u13 l (l ++ [x]) (retireS s5 x) (w7.alloc (.cells #[.int .i64 x] 3 (0, 0))) ∧ SrcN (w7.alloc (.cells #[.int .i64 x] 3 (0, 0))) (some ⟨w7.heap.size, 0, none⟩) 1 [x] ∧ l.length ≤ 10000) := ⟨hM7.below ((Below.refl _ _).alloc (Nat.le_refl _) _), hsrc, by have := HR.out.I.len; omega⟩
      clear hA7 hF7 hM7 hsrc kT
      go_wp2_with (refine list_appM1 rfl _ _ rfl HM7.out.1 rfl rfl HM7.out.2.1 HM7.out.2.2 ?_; intro v' w8 hM8; have HM8 : Hid _ := hM8; clear hM8)
      go_roundw
      case rel => exact ⟨i + 1, l ++ [x], _, HLT.out, by go_num, HM8.out⟩
      case measure =>
        have := HLT.out
        simp [intOf]
        omega
    · obtain rfl : i = n := by omega
      have hlb : decide ((i : Int) < (i : Int)) = false := by simp
      obtain ⟨e0, e1, e2, e3, e4⟩ := hR.wk.pl
      rw [← HX.out.2.2] at e0 e1 e2 e3 e4
      have hbx : wq.heap[b5]? = some (.cells #[.int .i64 0, .int .i64 0, .int .i64 0, .int .i64 0, .int .i64 0] 26 (0, 0)) ∧ wq.heap[b6]? = some (.cells #[.int .i64 0, .int .i64 0] 28 (0, 0)) ∧ wq.heap[b10]? = some (.cells #[.int .i64 (k : Int), .int .i64 (X : Int)] 28 (0, 0)) := by
        obtain ⟨x1, x2, x3, x4, x5, x6, x8, x7⟩ := HBX.out
        rw [← HG5.out] at x2
        exact ⟨(hR.low.block _ (lt_of_block x2)).trans x2, (hR.low.block _ (lt_of_block x3)).trans x3, (hR.low.block _ (lt_of_block x5)).trans x5⟩
      obtain ⟨y5, y6, y10⟩ := hbx
      have c5 := fun j => cell_of_row wq b5 j _ _ _ y5
      have f5 := fun j => frozen_of_row wq b5 j _ _ y5
      have c6 := fun j => cell_of_row wq b6 j _ _ _ y6
      have f6 := fun j => frozen_of_row wq b6 j _ _ y6
      have t0 : wq.cell? ⟨b10, 0, none⟩ = some (.int .i64 (k : Int)) := cell_of_row wq b10 0 _ _ _ y10
      have t1 : wq.cell? ⟨b10, 1, none⟩ = some (.int .i64 (X : Int)) := cell_of_row wq b10 1 _ _ _ y10
      have s50 : wq.cell? ⟨b5, 0, none⟩ = some (.int .i64 0) := c5 0
      have s51 : wq.cell? ⟨b5, 1, none⟩ = some (.int .i64 0) := c5 1
      have s52 : wq.cell? ⟨b5, 2, none⟩ = some (.int .i64 0) := c5 2
      have s53 : wq.cell? ⟨b5, 3, none⟩ = some (.int .i64 0) := c5 3
      have s54 : wq.cell? ⟨b5, 4, none⟩ = some (.int .i64 0) := c5 4
      have s60 : wq.cell? ⟨b6, 0, none⟩ = some (.int .i64 0) := c6 0
      have s61 : wq.cell? ⟨b6, 1, none⟩ = some (.int .i64 0) := c6 1
      have g50 := f5 0
      have g51 := f5 1
      have g52 := f5 2
      have g53 := f5 3
      have g54 := f5 4
      have g60 := f6 0
      have g61 := f6 1
      have HR : Hid (M1 B w wL L k i b8 i u13 l l s wq) := hR
      have hne : b6 ≠ b5 ∧ b8 ≠ b5 ∧ b8 ≠ b6 ∧ b10 ≠ b5 ∧ b10 ≠ b6 := by
        obtain ⟨x1, x2, x3, x4, x5, x6, x8, x7⟩ := HBX.out
        have := HG5.out
        have := HG6.out
        have := HG10.out
        refine ⟨?_, ?_, ?_, ?_, ?_⟩ <;> omega
      obtain ⟨n65, n85, n86, n105, n106⟩ := hne
      have n56 := Ne.symm n65
      have n58 := Ne.symm n85
      have n68 := Ne.symm n86
      have n510 := Ne.symm n105
      have n610 := Ne.symm n106
      have HY : Hid _ := And.intro y5 y6
      clear hR c5 c6 f5 f6 y5 y6 y10
      go_wp2_with fail
      go_region
      obtain ⟨W9, HW9, z5, z6, zk, zs, z1, z2, z3⟩ := sets (k := k) (X := X) (p := p) HY.out.1 HY.out.2 n65
      rw [← HW9.out]
      have d0 : W9.cell? ⟨b5, 0, none⟩ = some (.int .i64 p.wk) := cell_of_row _ _ 0 _ _ _ z5
      have d1 : W9.cell? ⟨b5, 1, none⟩ = some (.int .i64 p.hd) := cell_of_row _ _ 1 _ _ _ z5
      have d2 : W9.cell? ⟨b5, 2, none⟩ = some (.int .i64 p.ln) := cell_of_row _ _ 2 _ _ _ z5
      have d3 : W9.cell? ⟨b5, 3, none⟩ = some (.int .i64 p.gn) := cell_of_row _ _ 3 _ _ _ z5
      have d4 : W9.cell? ⟨b5, 4, none⟩ = some (.int .i64 p.cv) := cell_of_row _ _ 4 _ _ _ z5
      have d5 : W9.cell? ⟨b6, 0, none⟩ = some (.int .i64 (k : Int)) := cell_of_row _ _ 0 _ _ _ z6
      have d6 : W9.cell? ⟨b6, 1, none⟩ = some (.int .i64 (X : Int)) := cell_of_row _ _ 1 _ _ _ z6
      have hE := HR.out.end_ HT.out HG5.out HG6.out (by obtain ⟨x1, x2, x3, x4, x5, x6, x8, x7⟩ := HBX.out; omega) zk zs z1 z2 z3
      have HE : Hid _ := hE
      have hX := HX.out.1
      have hp := HX.out.2.2
      clear hE zk zs z1 z2 z3 z5 z6 HY
      go_wp2_with fail
      refine bodyPost_ret (v := .tuple #[ptrA B, p.v, .agg #[.int .i64 (k : Int), .int .i64 (X : Int)], u13]) ?_ rfl ⟨B, s, u13, l, ?_, HE.out⟩
      · simp [results, Tryd.results9, go_sem, d0, d1, d2, d3, d4, d5, d6, Pl5.v]
      · rw [hp, hX]
end
end Go.Proofs.YtopnkfbcphbbiaaDoor
