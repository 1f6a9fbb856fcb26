/-
  Helpers: Kc, Kd, Ke.
-/
import Derived.Test.YtopnkfbcphbbiaaDoorBunf91fb4991a03
namespace Go.Proofs.YtopnkfbcphbbiaaDoor
open Go.RowKit
open H8 (okP sizeF HTab below_then)
open A9 (Ab ArAt FrA Ar setRawA rawA useA ptrA Ok9 upN Left9 SrcN)
open F0 (Pl5 Tn FrS noT plBox plS plS_of Wk)
open S1 (RowO PlS plK plK_ok plK_wk grs Mc Out Al AlM AlR AlAt S3 stepF StPost SrPost alStep endB outR newAlW AlNew sizeF_pos)

structure Km (B : Ab) (W w : World) (s : Ar) (p : Pl5) (k X b6 b8 bP bH L : Nat) (ph hd : Nat → Int) : Prop where
  wk : Wk B W w s b6 p
  g8 : w.heap[b8]? = some (.cells #[.int .i64 (k : Int), .int .i64 (X : Int)] 28 (0, 0))
  n8 : ¬ B.has b8
  pr : w.rowIs bP 48 7 fun i => .int .i64 (ph i)
  hr : w.rowIs bH 48 7 fun i => .int .i64 (hd i)
  nP : ¬ B.has bP
  nH : ¬ B.has bH
  lt : b6 < bP ∧ b8 < bP ∧ bP < bH ∧ bH < L
  wP : W.heap.size ≤ bP
  old : Old B L
  sz : L ≤ w.heap.size
  tP : noT bP ∧ noT bH
section
variable {B : Ab} {W w w' : World} {s s' : Ar} {p : Pl5} {k X b6 b8 bP bH L i q : Nat} {ph hd : Nat → Int} {v v14 v15 v16 : Value} {rt l : List Int} {md : Md} {T : Nat}
theorem Km.frame (h : Km B W w s p k X b6 b8 bP bH L ph hd) (hA : ArAt B w' s') (hF : FrS (fun x => B.has x ∨ L ≤ x) w w') : Km B W w' s' p k X b6 b8 bP bH L ph hd := by
  obtain ⟨l1, l2, l3, l4⟩ := h.lt
  have hk : ∀ b, b < L → ¬ B.has b → w'.heap[b]? = w.heap[b]? := fun b hb hn => hF.block b (by have := h.sz; omega) fun hh => hh.elim hn fun e => by omega
  have hlow := h.wk.low.trans (hF.below h.wk.low.size fun x hx => hx.elim (h.wk.own x) fun e => by have := h.wP; omega)
  refine ⟨⟨hA, hlow, h.wk.own, (hk b6 (by omega) h.wk.gB).trans h.wk.bx, h.wk.gB, h.wk.gW⟩, (hk b8 (by omega) h.n8).trans h.g8, h.n8, h.pr.of_block (hk bP (by omega) h.nP), h.hr.of_block (hk bH (by omega) h.nH), h.nP, h.nH, h.lt, h.wP, h.old, Nat.le_trans h.sz hF.size, h.tP⟩
theorem Km.arena (h : Km B W w s p k X b6 b8 bP bH L ph hd) (hA : ArAt B w' s') (hF : FrA B w w') : Km B W w' s' p k X b6 b8 bP bH L ph hd :=
  h.frame hA (FrS.of_arena hF fun _ hk => .inl hk)
theorem Km.below (h : Km B W w s p k X b6 b8 bP bH L ph hd) (hb : Below w.heap.size w w') : Km B W w' s p k X b6 b8 bP bH L ph hd := h.frame (h.wk.ar.below hb) (FrS.of_below hb)
theorem Km.c80 (h : Km B W w s p k X b6 b8 bP bH L ph hd) : w.cell? ⟨b8, 0, none⟩ = some (.int .i64 (k : Int)) := cell_of_row _ _ 0 _ _ _ h.g8
theorem Km.c81 (h : Km B W w s p k X b6 b8 bP bH L ph hd) : w.cell? ⟨b8, 1, none⟩ = some (.int .i64 (X : Int)) := cell_of_row _ _ 1 _ _ _ h.g8
/-- a cell of the readers' rows turned -/
theorem Km.set (h : Km B W w s p k X b6 b8 bP bH L ph hd) {g : Nat} (hg : g = bP ∨ g = bH) (i : Nat) (x : Int) : ArAt B (w.setCell ⟨g, i, none⟩ (.int .i64 x)) s ∧ Below W.heap.size W (w.setCell ⟨g, i, none⟩ (.int .i64 x)) ∧ (∀ b, b ≠ g → (w.setCell ⟨g, i, none⟩ (.int .i64 x)).heap[b]? = w.heap[b]?) := by
  obtain ⟨l1, l2, l3, l4⟩ := h.lt
  have hn : ¬ B.has g := by
    rcases hg with e | e
    · rw [e]; exact h.nP
    · rw [e]; exact h.nH
  have ht : noT g := by
    rcases hg with e | e
    · rw [e]; exact h.tP.1
    · rw [e]; exact h.tP.2
  have hW : W.heap.size ≤ g := by have := h.wP; rcases hg with e | e <;> omega
  have hbk : ∀ b, b ≠ g → (w.setCell ⟨g, i, none⟩ (.int .i64 x)).heap[b]? = w.heap[b]? := fun b hb => Below.heap_setCell _ _ _ _ hb
  refine ⟨⟨h.wk.ar.toArMem.same (fun b hb => hbk b fun e => hn (e ▸ hb)) (A9.htab_set h.wk.ar.tab ht.1 ht.2 i _), h.wk.ar.ok⟩, ⟨h.wk.low.os, h.wk.low.tape, h.wk.low.output, by simpa using h.wk.low.size, fun b hb => (hbk b (by omega)).trans (h.wk.low.block b hb)⟩, hbk⟩
theorem Km.setP (h : Km B W w s p k X b6 b8 bP bH L ph hd) (i : Nat) (x : Int) : Km B W (w.setCell ⟨bP, i, none⟩ (.int .i64 x)) s p k X b6 b8 bP bH L (upN ph i x) hd := by
  obtain ⟨l1, l2, l3, l4⟩ := h.lt
  obtain ⟨h1, h2, h3⟩ := h.set (.inl rfl) i x
  refine ⟨⟨h1, h2, h.wk.own, (h3 b6 (by omega)).trans h.wk.bx, h.wk.gB, h.wk.gW⟩, (h3 b8 (by omega)).trans h.g8, h.n8, (h.pr.set i _).congr fun j _ => ?_, h.hr.of_block (h3 bH (by omega)), h.nP, h.nH, h.lt, h.wP, h.old, by simpa using h.sz, h.tP⟩
  unfold upN
  split <;> rfl
theorem Km.setH (h : Km B W w s p k X b6 b8 bP bH L ph hd) (i : Nat) (x : Int) : Km B W (w.setCell ⟨bH, i, none⟩ (.int .i64 x)) s p k X b6 b8 bP bH L ph (upN hd i x) := by
  obtain ⟨l1, l2, l3, l4⟩ := h.lt
  obtain ⟨h1, h2, h3⟩ := h.set (.inr rfl) i x
  refine ⟨⟨h1, h2, h.wk.own, (h3 b6 (by omega)).trans h.wk.bx, h.wk.gB, h.wk.gW⟩, (h3 b8 (by omega)).trans h.g8, h.n8, h.pr.of_block (h3 bP (by omega)), (h.hr.set i _).congr fun j _ => ?_, h.nP, h.nH, h.lt, h.wP, h.old, by simpa using h.sz, h.tP⟩
  unfold upN
  split <;> rfl
end
/-- the writer's own -/
def Mw (B : Ab) (w : World) (p : Pl5) (k X L : Nat) (v14 v15 v16 : Value) : Md → Prop
  | .idle => v14 = .pointer none ∧ v15 = .pointer none
  | .al m => v15 = .pointer none ∧ ∃ q a t, v14 = .pointer (some ⟨q, 0, none⟩) ∧ AlM B q w p a t ∧ AlR m a t ∧ L ≤ q ∧ L ≤ a.x ∧ ∀ g, v16.ownBlock = some g → g ≠ q ∧ g ≠ a.x
  | .sc x => v14 = .pointer none ∧ ∃ b base, v15 = .pointer (some ⟨b.q, 0, none⟩) ∧ ScM B base w p ⟨X, k, 0⟩ x b ∧ L ≤ base ∧ base ≤ w.heap.size ∧ ∀ g, v16.ownBlock = some g → g < base
section
variable {B : Ab} {W w w' : World} {s s' : Ar} {p : Pl5} {k X b6 b8 bP bH L i q : Nat} {ph hd : Nat → Int} {v v14 v15 v16 : Value} {rt l : List Int} {md : Md} {T : Nat}
theorem Mw.keep (h : Mw B w p k X L v14 v15 v16 md) (hs : w.heap.size ≤ w'.heap.size) (hk : ∀ x, L ≤ x → x < w.heap.size → w'.heap[x]? = w.heap[x]?) : Mw B w' p k X L v14 v15 v16 md := by
  cases md with
  | idle => exact h
  | al m =>
    obtain ⟨h1, q, a, t, h2, h3, h4, h5, h6, h7⟩ := h
    exact ⟨h1, q, a, t, h2, ⟨h3.al.same (hk q h5 h3.al.lt), h3.po.same (hk a.x h6 h3.po.lt), h3.qB, h3.xB, h3.qT, h3.xT⟩, h4, h5, h6, h7⟩
  | sc x =>
    obtain ⟨h1, b, base, h2, h3, h4, h5, h6⟩ := h
    exact ⟨h1, b, base, h2, h3.keep hs fun i x hx => hk x (by have := (h3.lo i x hx).1; omega) (h3.lo i x hx).2.1, h4, Nat.le_trans h5 hs, h6⟩
end
/-- a round's state -/
structure Kx (B : Ab) (W w : World) (s : Ar) (p : Pl5) (k X b6 b8 bP bH L : Nat) (v14 v15 v16 : Value) (c : Int) (rt : List Int) (md : Md) (ph hd : Nat → Int) (T : Nat) : Prop where
  m : Km B W w s p k X b6 b8 bP bH L ph hd
  q : Mw B w p k X L v14 v15 v16 md
  r : RowO w L v16 rt
  p : Kp k X s c rt md ph hd T
  lo : md.lo rt
  go : ∀ x, md = .sc x → endS ⟨X, k, 0⟩ x = false
section
variable {B : Ab} {W w w' : World} {s s' : Ar} {p : Pl5} {k X b6 b8 bP bH L i q r : Nat} {ph hd : Nat → Int} {v v14 v15 v16 : Value} {rt l : List Int} {md : Md} {T : Nat} {c x : Int}
theorem Old.no {b : Nat} (h : Old B L) (hb : L ≤ b) : ¬ B.has b := fun hh => by
  have := h.ar b hh
  omega
theorem Kx.arena (h : Kx B W w s p k X b6 b8 bP bH L v14 v15 v16 c rt md ph hd T) (hA : ArAt B w' s') (hF : FrA B w w') (hp : Kp k X s' c rt md ph hd T) : Kx B W w' s' p k X b6 b8 bP bH L v14 v15 v16 c rt md ph hd T :=
  ⟨h.m.arena hA hF, h.q.keep hF.size fun x hx hl => hF.block x hl (h.m.old.no hx), h.r.kept fun g hg => hF.block g (h.r.lt g hg).2 (h.m.old.no (h.r.lt g hg).1), hp, h.lo, h.go⟩
theorem Kx.below (h : Kx B W w s p k X b6 b8 bP bH L v14 v15 v16 c rt md ph hd T) (hb : Below w.heap.size w w') : Kx B W w' s p k X b6 b8 bP bH L v14 v15 v16 c rt md ph hd T :=
  h.arena (h.m.wk.ar.below hb) (FrA.of_below hb) h.p
/-- a reader's step of the arena, and its cells -/
theorem Kx.turn {ph' hd' : Nat → Int} (h : Kx B W w s p k X b6 b8 bP bH L v14 v15 v16 c rt md ph hd T) (hm : Km B W w' s' p k X b6 b8 bP bH L ph' hd') (hs : w.heap.size ≤ w'.heap.size) (hk : ∀ x, L ≤ x → x < w.heap.size → w'.heap[x]? = w.heap[x]?) (hp : Kp k X s' c rt md ph' hd' T) : Kx B W w' s' p k X b6 b8 bP bH L v14 v15 v16 c rt md ph' hd' T :=
  ⟨hm, h.q.keep hs hk, h.r.kept fun g hg => hk g (h.r.lt g hg).1 (h.r.lt g hg).2, hp, h.lo, h.go⟩
end
end Go.Proofs.YtopnkfbcphbbiaaDoor
namespace Go.Proofs.YtopnkfbcphbbiaaDoor
open Go.RowKit
open H8 (okP sizeF HTab below_then)
open A9 (Ab ArAt FrA Ar setRawA rawA storeA retireA retireS useA ptrA Ok9 upN Left9 SrcN)
open F0 (Pl5 Tn FrS noT plBox plS plS_of Wk headF headF_eq)
open S1 (RowO PlS plK plK_ok plK_wk grs Mc Out Al AlM AlR AlAt S3 stepF StPost SrPost alStep endB outR newAlW AlNew sizeF_pos)

section
variable {B : Ab} {W w w' : World} {s s' : Ar} {p : Pl5} {k X b6 b8 bP bH L i q r : Nat} {ph hd : Nat → Int} {v v14 v15 v16 : Value} {rt l : List Int} {md : Md} {T : Nat} {c x : Int} {m : Mc} {sc : Sc}
theorem Kx.ask (h : Kx B W w s p k X b6 b8 bP bH L v14 v15 v16 c rt .idle ph hd T) (hp : p = plK k 400) (hk : 1 ≤ k) (hk2 : k ≤ 100) :
    Calls Tryd.prog 24 #[p.v, .int .i64 0, .int .i64 0] w fun e w' => ∃ v', e = .returned v' ∧ Kx B W w' s p k X b6 b8 bP bH L v' v15 v16 c rt (.al (.pop 0 0 (k - 1) ⟨0, 0, 0⟩)) ph hd T := by
  subst hp
  have hpl := plK_ok (a := k) (m := 400) hk hk2
  refine (newAlW h.m.wk (k := ((0 : Nat) : Int)) (c := ((0 : Nat) : Int)) (by rw [plK_wk]; omega) (by rw [plK_wk]; omega) (sizeF_pos (by omega))).mono fun e w1 hh => ?_
  obtain ⟨q, e1, hN⟩ := hh
  obtain ⟨x0, hM, hx⟩ := hN.ex
  have hq := hN.q0
  have hal : AlR (.pop 0 0 (k - 1) ⟨0, 0, 0⟩) ⟨x0, ((0 : Nat) : Int), ((0 : Nat) : Int), (plK k 400).wk - 1, 0, 0, 0⟩ ⟨headF (plK k 400) ((0 : Nat) : Int) ((0 : Nat) : Int), 0, 0, 0⟩ := by
    refine ⟨rfl, rfl, rfl, ?_, ?_, ⟨?_, rfl, fun h => by simp at h, fun h => by simp at h⟩, by omega⟩
    · show (plK k 400).wk - 1 = ((k - 1 : Nat) : Int)
      rw [plK_wk]; omega
    · rfl
    · show headF (plK k 400) ((0 : Nat) : Int) ((0 : Nat) : Int) = ((0 : Nat) : Int)
      rw [headF_eq hpl.k (by omega) (by omega) (by omega) (by omega)]
      rfl
  have hsz := h.m.sz
  have hr2 := fun g hg => (h.r.lt g hg).2
  exact ⟨_, e1, h.m.below hN.bel, ⟨h.q.2, q, _, _, rfl, hM, hal, by omega, Nat.le_trans hsz hx, fun g hg => ⟨by have := hr2 g hg; omega, fun e => by have := hr2 g hg; have e2 : g = x0 := e; omega⟩⟩, h.r.kept fun g hg => hN.bel.block g (hr2 g hg), h.p.ask hk, h.lo, fun x hx => by cases hx⟩
/-- what an alloc's end leaves -/
structure Kg (B : Ab) (W w : World) (s : Ar) (p : Pl5) (k X b6 b8 bP bH L : Nat) (v15 v16 : Value) (c : Int) (rt : List Int) (ph hd : Nat → Int) (T : Nat) (h : Int) : Prop where
  m : Km B W w s p k X b6 b8 bP bH L ph hd
  r : RowO w L v16 rt
  e : v15 = .pointer none
  g : Gt k X s c rt ph hd T h
def StK (B : Ab) (W : World) (p : Pl5) (k X b6 b8 bP bH L : Nat) (v14 v15 v16 : Value) (c : Int) (rt : List Int) (ph hd : Nat → Int) (T : Nat) (w' : World) : Bool → Prop
  | false => ∃ s' m', Kx B W w' s' p k X b6 b8 bP bH L v14 v15 v16 c rt (.al m') ph hd T
  | true => ∃ q s' a, v14 = .pointer (some ⟨q, 0, none⟩) ∧ AlAt q w' p a ∧ ((a.hn = 0 ∧ Kx B W w' s' p k X b6 b8 bP bH L (.pointer none) v15 v16 c rt .idle ph hd T) ∨ (a.hn ≠ 0 ∧ Kg B W w' s' p k X b6 b8 bP bH L v15 v16 c rt ph hd T a.hn))
theorem Kx.stepA (h : Kx B W w s p k X b6 b8 bP bH L v14 v15 v16 c rt (.al m) ph hd T) (hp : PlS (4 * k) (grs 400) p) (hT : T ≤ 700) :
    Calls Tryd.prog 25 #[v14, ptrA B] w fun e w' => ∃ d, e = .returned (.bool d) ∧ StK B W p k X b6 b8 bP bH L v14 v15 v16 c rt ph hd (T + 1) w' d := by
  obtain ⟨h15, q, a, t, rfl, hM, hR, hq, hx, hd2⟩ := h.q
  obtain ⟨cg, ls, hW⟩ := h.p.W
  have hI := Wx.invA (m := m) hW (N := 700) hT
  refine (alStep h.m.wk.ar hM hR hp hI (by omega)).mono fun e w1 hh => ?_
  obtain ⟨a', t', ⟨e1, hA, hM2, hF, hx2⟩, ho⟩ := hh
  have hO := h.m.wk.ar.ok
  have hT2 : T ≤ 1000000 := by omega
  have hsz := h.m.sz
  have hF2 : FrS (fun y => B.has y ∨ L ≤ y) w w1 := hF.wide fun y hy => by
    rcases hy with hy | hy | hy
    · exact .inl hy
    · exact .inr (by omega)
    · exact .inr (by omega)
  have hm := h.m.frame hA hF2
  have hrow : RowO w1 L v16 rt := h.r.kept fun g hg => hF.block g (h.r.lt g hg).2 fun hy => by
    rcases hy with hy | hy | hy
    · exact h.m.old.no (h.r.lt g hg).1 hy
    · exact (hd2 g hg).1 hy
    · exact (hd2 g hg).2 hy
  have hx3 : L ≤ a'.x := by rcases hx2 with e | e <;> omega
  have hd3 : ∀ g, v16.ownBlock = some g → g ≠ q ∧ g ≠ a'.x := fun g hg => ⟨(hd2 g hg).1, fun e => by
    rcases hx2 with e2 | e2
    · exact (hd2 g hg).2 (e.trans e2)
    · have := (h.r.lt g hg).2
      omega⟩
  generalize hr : (stepF (4 * k) (grs 400) s m).2 = o at *
  cases o with
  | go m' => exact ⟨false, e1, _, m', hm, ⟨h15, q, a', t', rfl, hM2, ho, hq, hx3, hd3⟩, hrow, h.p.stepG hO hT2 hr, h.lo, fun x hx => by cases hx⟩
  | freed => exact ho.elim
  | refused => exact ⟨true, e1, q, _, a', rfl, hM2.al, .inl ⟨ho.2, hm, ⟨rfl, h15⟩, hrow, h.p.stepN hO hT2 hr, h.lo, fun x hx => by cases hx⟩⟩
  | got y =>
    obtain ⟨o1, o2⟩ := ho
    have hg := h.p.stepY h.lo hO hT2 hr
    rw [← o2] at hg
    exact ⟨true, e1, q, _, a', rfl, hM2.al, .inr ⟨hg.nz, hm, hrow, h15, hg⟩⟩
/-- the row, one more behind -/
theorem Kn_app (hm : Km B W w s p k X b6 b8 bP bH L ph hd) (hr : RowO w L v l) (ty : TypeId) {ad : Option Addr} {cap : Nat} (hs : SrcN w ad 1 [x]) (hn : l.length ≤ 10000) :
    ∃ v' w', (Builtin.append_ #[22, 22] ty #[v, .slice ad 1 cap]).run Tryd.prog w = .ok v' w' ∧ Km B W w' s p k X b6 b8 bP bH L ph hd ∧ RowO w' L v' (l ++ [x]) := by
  have hsz := hm.sz
  obtain ⟨v', w', h1, ho, hkb, hs2, e1, e2, e3, hbk⟩ := hr.app ty hsz (cap := cap) hs hn
  have hrl := fun g hg => (hr.lt g hg).1
  have hFw : FrB B L w w' := ⟨e1, e2, e3, hs2, fun y hy hn => hkb y hy fun e => hn (.inr (hrl y e))⟩
  have hA := hFw.ar hm.old hsz hm.wk.ar fun y hy => hkb y (hm.wk.ar.lt hy) fun e => by have := hm.old.ar y hy; have := hrl y e; omega
  exact ⟨v', w', h1, hm.frame hA hFw, ho⟩
theorem list_appK {ops : Array Oper} {rest : List Oper} {o : Oper} {a : Act} {Q : Exit → Act → World → Prop} (hgd : o.guard = none) (y z : Operand)
    (ho : o.op = .call { callee := .builtin .append, args := #[y, z], argTypes := #[22, 22] }) (hm : Km B W w s p k X b6 b8 bP bH L ph hd) (hr : RowO w L v l) {ad : Option Addr} {cap : Nat} (hx : a.eval y = v) (hy : a.eval z = .slice ad 1 cap) (hs : SrcN w ad 1 [x]) (hn : l.length ≤ 10000)
    (hK : ∀ v' w', Km B W w' s p k X b6 b8 bP bH L ph hd → RowO w' L v' (l ++ [x]) → wpList Tryd.prog ops Q rest (a.put o.dst v') w') : wpList Tryd.prog ops Q (o :: rest) a w := by
  refine wpList_plain hgd fun K' hK' => ?_
  obtain ⟨v', w', h1, h2, h3⟩ := Kn_app hm hr o.type (cap := cap) hs hn
  unfold Oper.wp execOp
  simp only [ho, resolve, invoke, builtin, Sem.run_bind, Sem.run_pure, Result.andThen_ok, List.map_toArray, List.map_cons, List.map_nil, hx, hy, h1]
  exact hK' _ _ (hK v' w' h2 h3)
/-- a scan begins -/
theorem Kx.scan (hm : Km B W w s p k X b6 b8 bP bH L ph hd) (hr : RowO w L v16 rt) (hp : Kp k X s c rt .idle ph hd T) (hk : 1 ≤ k) :
    Calls Tryd.prog 13 #[.agg #[.int .i64 (k : Int), .int .i64 (X : Int)], p.v, .int .i64 0, v16] w fun e w' => ∃ v', e = .returned v' ∧ Kx B W w' s p k X b6 b8 bP bH L (.pointer none) v' v16 c rt (.sc ⟨0, [], rt, [], none⟩) ph hd T := by
  have hlen : rt.length ≤ 13 := hp.few
  refine (NewScan_any (B := B) p ⟨X, k, 0⟩ hr (by omega) (fun y hy => hm.wk.ar.lt hy) hm.wk.ar.tab).mono fun e w1 hh => ?_
  obtain ⟨b, e1, hb, hM⟩ := hh
  have hm1 := hm.below hb
  refine ⟨_, e1, hm1, ⟨rfl, b, w.heap.size, rfl, hM, hm.sz, hb.size, fun g hg => (hr.lt g hg).2⟩, hr.kept fun g hg => hb.block g (hr.lt g hg).2, hp.scan, trivial, fun x hx => ?_⟩
  cases hx
  unfold endS
  rw [decide_eq_true (show (⟨0, [], rt, [], none⟩ : Sc).lk < 2 * (⟨X, k, 0⟩ : Tb).tw by show 0 < 2 * k; omega)]
  rfl
/-- what a scan's step leaves -/
def SsK (B : Ab) (W : World) (p : Pl5) (k X b6 b8 bP bH L : Nat) (v14 v15 v16 : Value) (c : Int) (rt : List Int) (ph hd : Nat → Int) (T : Nat) (w' : World) : Bool → Prop
  | false => ∃ s' x', Kx B W w' s' p k X b6 b8 bP bH L v14 v15 v16 c rt (.sc x') ph hd T
  | true => ∃ s' l, Km B W w' s' p k X b6 b8 bP bH L ph hd ∧ v14 = .pointer none ∧ Kp k X s' c l .idle ph hd T ∧ l.length ≤ 12 ∧ Calls Tryd.prog 17 #[v15] w' fun e w2 => ∃ v', e = .returned v' ∧ RowO w2 w'.heap.size v' l ∧ Below w'.heap.size w' w2
theorem Kx.stepS (h : Kx B W w s p k X b6 b8 bP bH L v14 v15 v16 c rt (.sc sc) ph hd T) (hp : PlS (4 * k) (grs 400) p) (hk : k ≤ 6) (hT : T ≤ 700) :
    Calls Tryd.prog 15 #[v15, ptrA B] w fun e w' => ∃ d, e = .returned (.bool d) ∧ SsK B W p k X b6 b8 bP bH L v14 v15 v16 c rt ph hd (T + 1) w' d := by
  obtain ⟨h14, b, base, rfl, hM, hb1, hb2, hv⟩ := h.q
  obtain ⟨cg, ls, hI⟩ := h.p.W
  obtain ⟨f1, f2, f3, f4⟩ := h.p.few
  have hX := h.p.hX
  have hnr := h.p.nr
  have hT2 : T ≤ 1000000 := by omega
  have hgr : grs 400 = 50 := rfl
  have hO : Old B base := ⟨fun y hy => Nat.lt_of_lt_of_le (h.m.old.ar y hy) hb1, fun y hy => Nat.lt_of_lt_of_le (h.m.old.tb y hy) hb1⟩
  have htb : TbOk (4 * k) (grs 400) ⟨X, k, 0⟩ s := ⟨by show k ≤ 1000; omega, by show X ≤ 100000; omega, by show X + 2 * k ≤ s.nr; omega, by show _ < X; omega⟩
  refine (Step_any h.m.wk.ar hM hO hb2 hp hI htb (by omega)).mono fun e w1 hh => ?_
  obtain ⟨e1, hA, hF, b', hbq, hM2⟩ := hh
  have hp2 := h.p.scStep hk hT2 (h.go sc rfl)
  have hF2 : FrS (fun y => B.has y ∨ L ≤ y) w w1 := FrS.wide hF fun y hy => hy.imp id fun e => by omega
  have hm := h.m.frame hA hF2
  have hrow : RowO w1 L v16 rt := h.r.kept fun g hg => FrS.block hF g (h.r.lt g hg).2 fun hy => by
    rcases hy with hy | hy
    · exact h.m.old.no (h.r.lt g hg).1 hy
    · have := hv g hg
      omega
  have hs1 : w.heap.size ≤ w1.heap.size := FrS.size hF
  refine ⟨_, e1, ?_⟩
  generalize hsc : (scF (4 * k) (grs 400) ⟨X, k, 0⟩ s sc).2 = sc' at *
  cases he : endS ⟨X, k, 0⟩ sc' with
  | false => exact ⟨_, sc', hm, ⟨h14, b', base, by rw [hbq], hM2, hb1, Nat.le_trans hb2 hs1, hv⟩, hrow, hp2, trivial, fun x hx => by cases hx; exact he⟩
  | true =>
    obtain ⟨hp3, hl3⟩ := hp2.ended he
    have hlk : sc'.lk ≤ 2 * k := by
      obtain ⟨cg', ls', hI'⟩ := hp2.W
      exact hI'.lk
    have hL := Left_any hM2 (by omega) he (by omega)
    rw [hbq] at hL
    exact ⟨_, sc'.lf, hm, h14, hp3, hl3, hL⟩
end
end Go.Proofs.YtopnkfbcphbbiaaDoor
namespace Go.Proofs.YtopnkfbcphbbiaaDoor
open Go.RowKit
open H8 (okP sizeF HTab below_then)
open A9 (Ab ArAt FrA Ar setRawA rawA ptrA Ok9 upN new9)
open F0 (Pl5 FrS noT noT_new plBox Wk)
open S1 (RowO PlS plK grs)

section
variable {B : Ab} {w w1 w2 w3 : World} {s0 : Ar} {p : Pl5} {k X : Nat}
theorem new_dims (r m : Nat) (h1 : r ≤ 60000) (h2 : m ≤ 1000) : (new9 (r : Int) (m : Int) false).nr = r ∧ (new9 (r : Int) (m : Int) false).nw = m := ⟨S1.cut_id (by omega), S1.cut_id (by omega)⟩
theorem Kp.begin (hk : k ≤ 6) (hk1 : 1 ≤ k) (hX : X = 4 * k + grs 400 + grs 400 + 1) : Kp k X (new9 ((X + 2 * k + 1 : Nat) : Int) 400 false) 0 [] .idle (fun _ => 0) (fun _ => 0) 0 := by
  have hg : grs 400 = 50 := rfl
  obtain ⟨e1, e2⟩ := new_dims (X + 2 * k + 1) 400 (by omega) (by omega)
  rw [show ((400 : Nat) : Int) = 400 from rfl] at e1 e2
  exact ⟨⟨0, fun _ => [], Wx.new (4 * k) (grs 400) 0 _ 400 (by rw [e1]; omega) (by omega) (by rw [e2]; omega) (by omega) (by omega) rfl (by omega)⟩, Nat.zero_le _, rfl, fun y hy => by rcases hy with hy | hy <;> simp [cellL, Md.wt] at hy, fun r _ _ => ⟨by decide, fun e => absurd e (by decide), fun e => absurd e (by decide)⟩, e2, e1, rfl, rfl, hX⟩
theorem row7 (w : World) : (w.alloc (.cells (Array.replicate 7 (.int .i64 0)) 48 (0, 0))).rowIs w.heap.size 48 7 fun _ => .int .i64 0 :=
  ⟨_, (Go.MapKept.heap_alloc w _).1, by simp, fun i hi => by simp [hi]⟩
theorem Km.begin (hT : HTab w) (hb1 : Below w.heap.size w w1) (hb2 : Below (w1.alloc (plBox p)).heap.size (w1.alloc (plBox p)) w2) (hb3 : Below (w2.alloc (.cells #[.int .i64 (k : Int), .int .i64 (X : Int)] 28 (0, 0))).heap.size (w2.alloc (.cells #[.int .i64 (k : Int), .int .i64 (X : Int)] 28 (0, 0))) w3) (hA3 : ArAt B w3 s0)
    (hB : ∀ x, B.has x → (w2.alloc (.cells #[.int .i64 (k : Int), .int .i64 (X : Int)] 28 (0, 0))).heap.size ≤ x) :
    Km B w ((w3.alloc (.cells (Array.replicate 7 (.int .i64 0)) 48 (0, 0))).alloc (.cells (Array.replicate 7 (.int .i64 0)) 48 (0, 0))) s0 p k X w1.heap.size w2.heap.size w3.heap.size (w3.heap.size + 1) (w3.heap.size + 2) (fun _ => 0) (fun _ => 0) := by
  have z1 : (w1.alloc (plBox p)).heap.size = w1.heap.size + 1 := by simp
  have z2 : (w2.alloc (.cells #[.int .i64 (k : Int), .int .i64 (X : Int)] 28 (0, 0))).heap.size = w2.heap.size + 1 := by simp
  have z3 : (w3.alloc (.cells (Array.replicate 7 (.int .i64 0)) 48 (0, 0))).heap.size = w3.heap.size + 1 := by simp
  have s1 := hb1.size
  have s2 := hb2.size
  have s3 := hb3.size
  rw [z1] at hb2 s2
  rw [z2] at hb3 s3
  have b1 : Below w.heap.size w (w1.alloc (plBox p)) := hb1.alloc s1 _
  have b2 := below_then b1 (by rw [z1]; exact hb2)
  have b2' : Below w.heap.size w (w2.alloc (.cells #[.int .i64 (k : Int), .int .i64 (X : Int)] 28 (0, 0))) := b2.alloc b2.size _
  have b3 := below_then b2' (by rw [z2]; exact hb3)
  have bL : Below w3.heap.size w3 ((w3.alloc (.cells (Array.replicate 7 (.int .i64 0)) 48 (0, 0))).alloc (.cells (Array.replicate 7 (.int .i64 0)) 48 (0, 0))) := ((Below.refl _ _).alloc (Nat.le_refl _) _).alloc (by omega) _
  have hT3 : HTab w3 := hT.below b3
  have hno : ∀ x, x ≤ w2.heap.size → ¬ B.has x := fun x hx hh => by have := hB x hh; omega
  have hnl : ∀ x, w3.heap.size ≤ x → ¬ B.has x := fun x hx hh => by have := hA3.lt hh; omega
  have g6 : w3.heap[w1.heap.size]? = some (plBox p) := (hb3.block _ (by omega)).trans ((Below.heap_alloc _ _ _ (by omega)).trans ((hb2.block _ (by omega)).trans (Go.MapKept.heap_alloc w1 _).1))
  have g8 : w3.heap[w2.heap.size]? = some (.cells #[.int .i64 (k : Int), .int .i64 (X : Int)] 28 (0, 0)) := (hb3.block _ (by omega)).trans (Go.MapKept.heap_alloc w2 _).1
  have r1 := row7 w3
  have r2 := row7 (w3.alloc (.cells (Array.replicate 7 (.int .i64 0)) 48 (0, 0)))
  rw [z3] at r2
  refine ⟨⟨hA3.below bL, below_then b3 bL, fun x hx => by have := hB x hx; omega, (bL.block _ (by omega)).trans g6, hno _ (by omega), s1⟩, (bL.block _ (by omega)).trans g8, hno _ (by omega), r1.of_block (Below.heap_alloc _ _ _ (by omega)), r2, hnl _ (by omega), hnl _ (by omega), ⟨by omega, by omega, by omega, by omega⟩, by omega, ⟨fun x hx => by have := hA3.lt hx; omega, fun x hx => by have := A9.tab_lt hT3 x hx; omega⟩, by simp, noT_new hT3 (by omega), noT_new hT3 (by omega)⟩
end
/-- a round's state, all told apart -/
def KxR (B : Ab) (W : World) (p : Pl5) (k X b6 b8 bP bH L : Nat) (v14 v15 v16 : Value) (T : Nat) (w : World) : Prop := ∃ s c rt md ph hd, Kx B W w s p k X b6 b8 bP bH L v14 v15 v16 c rt md ph hd T
end Go.Proofs.YtopnkfbcphbbiaaDoor
