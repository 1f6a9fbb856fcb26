/-
  Helpers: EvM, EvN, EvO, EvS.
-/
import Derived.Test.YtpmapdialjdcbaaDoorBun065f87cb621d
import Derived.Test.YtpmapdialjdcbaaDoorBun08ba12097ca8
import Derived.Test.YtpmapdialjdcbaaDoorBunebffe6de244d
import Derived.Test.YtpmapdialjdcbaaDoorBund390d139163e
import Derived.OwnWalk
import Derived.OneCell
import Derived.Below
import Derived.Deep.AppendLies
import Derived.Deep.RegionLaw
import Derived.Deep.QuietTactic
import Derived.BigQuiet
import Derived.Defers
import Derived.Recover
import Derived.WalkSmall
namespace Go.Proofs.YtpmapdialjdcbaaDoor
open Go.RowKit
open C2 (In Pr SlF SlI InsAt still_of_below)

def rnC (x : Rn) : List Value := [.int .i64 x.key, .int .i64 x.fn, .int .i64 x.arg, .int .i64 x.e.h, .int .i64 x.e.v]
def cellsR (T : List Rn) : List Value := (T.map rnC).flatten
theorem cellsR_snoc (T : List Rn) (t : Rn) : cellsR (T ++ [t]) = cellsR T ++ rnC t := by simp [cellsR]
theorem cellsR_length : ∀ T : List Rn, (cellsR T).length = T.length * 5
  | [] => rfl
  | t :: T => by
    have ih := cellsR_length T
    simp only [cellsR, List.map_cons, List.flatten_cons, List.length_append, List.length_cons] at ih ⊢
    rw [ih]
    simp [rnC]
    omega
theorem own_same7 {w w' : World} {base : Nat} {e : TypeId} {size : Nat} {v : Value} {n : Nat} {xs : List Value} (h : w.ownsRow base e size v n xs) (hb : ∀ g, v.ownBlock = some g → w'.heap[g]? = w.heap[g]?) : w'.ownsRow base e size v n xs := by
  refine ⟨h.1, ?_⟩
  rcases h.2 with h0 | ⟨g, cap, cur, rfl, h1, h2, r⟩
  · exact .inl h0
  · exact .inr ⟨g, cap, cur, rfl, h1, (hb g rfl).trans h2, r⟩
theorem own_apart {w : World} {b1 b2 s1 s2 n m : Nat} {e f : TypeId} {v u : Value} {xs ys : List Value} (h1 : w.ownsRow b1 e s1 v n xs) (h2 : w.ownsRow b2 f s2 u m ys) (hne : e ≠ f) (g : Nat) (hv : v.ownBlock = some g) : u.ownBlock ≠ some g := by
  intro hu
  rcases h1.2 with ⟨rfl, _⟩ | ⟨g1, c1, cur1, rfl, _, hg1, _⟩
  · simp [Value.ownBlock] at hv
  · rcases h2.2 with ⟨rfl, _⟩ | ⟨g2, c2, cur2, rfl, _, hg2, _⟩
    · simp [Value.ownBlock] at hu
    · simp [Value.ownBlock] at hv hu
      subst hv
      subst hu
      rw [hg1] at hg2
      simp at hg2
      exact hne hg2.2
theorem own_typ {w : World} {b1 s1 n : Nat} {e : TypeId} {v : Value} {xs : List Value} (h1 : w.ownsRow b1 e s1 v n xs) {g : Nat} {cs : Array Value} {T : TypeId} {fz : Nat × Nat} (hg : w.heap[g]? = some (.cells cs T fz)) (hne : e ≠ T) : v.ownBlock ≠ some g := by
  intro hv
  rcases h1.2 with ⟨rfl, _⟩ | ⟨g1, c1, cur1, rfl, _, hg1, _⟩
  · simp [Value.ownBlock] at hv
  · simp [Value.ownBlock] at hv
    subst hv
    rw [hg1] at hg
    simp at hg
    exact hne hg.2.1
structure Ev7 where
  W0 : World
  bw : Nat
  p : Pg7
  M : Nat
  fv : Value
  uv : Value
  sv : Value
structure Wd where
  rv : Value
  C : List Rn
  fu : List Int
  ws : List Bool
  st : Nat
  fk : Nat
def Wd.box (E : Ev7) (d : Wd) : Array Value := #[E.fv, .int .i64 E.p.futs, .int .i64 E.p.depth, .int .i64 E.p.fuel, .int .i64 E.M, .int .i64 d.st, .int .i64 d.fk, d.rv, E.uv, E.sv]
/-- what all tasks have in common -/
structure Wh (E : Ev7) (w : World) (d : Wd) : Prop where
  base : Below E.W0.heap.size E.W0 w
  lo : E.W0.heap.size ≤ E.bw
  box : w.heap[E.bw]? = some (.cells (d.box E) 66 (0, 0))
  ran : w.ownsRow E.W0.heap.size 60 5 d.rv d.C.length (cellsR d.C)
  fut : w.ownsRow E.W0.heap.size 3 1 E.uv d.fu.length (d.fu.map (Value.int .i64))
  was : w.ownsRow E.W0.heap.size 4 1 E.sv d.ws.length (d.ws.map Value.bool)
  fns : SlF E.W0 E.fv E.p.fs
def Ex (E : Ev7) (k : Nat) : Prop := k = E.bw ∨ E.uv.ownBlock = some k ∨ E.sv.ownBlock = some k
def NotRan (w : World) (k : Nat) : Prop := ∀ cs fz, w.heap[k]? ≠ some (.cells cs 60 fz)
/-- what a step leaves as it was -/
structure Fr7 (E : Ev7) (bt : Option Nat) (w w' : World) : Prop where
  low : Below E.W0.heap.size w w'
  mid : ∀ k, k < w.heap.size → ¬ Ex E k → bt ≠ some k → NotRan w k → w'.heap[k]? = w.heap[k]?
section
variable {E : Ev7} {w w' : World} {d : Wd} {bt : Option Nat}
theorem Fr7.refl (E : Ev7) (bt : Option Nat) (w : World) : Fr7 E bt w w := ⟨Below.refl _ _, fun _ _ _ _ _ => rfl⟩
theorem Fr7.trans {a b c : World} (h : Fr7 E bt a b) (k : Fr7 E bt b c) : Fr7 E bt a c :=
  ⟨h.low.trans k.low, fun i h1 h2 h3 h4 => by
    have e := h.mid i h1 h2 h3 h4
    rw [k.mid i (Nat.lt_of_lt_of_le h1 h.low.size) h2 h3 (fun cs fz => by rw [e]; exact h4 cs fz), e]⟩
theorem Fr7.wide {a b : World} (h : Fr7 E none a b) (bt : Option Nat) : Fr7 E bt a b := ⟨h.low, fun i h1 h2 _ h4 => h.mid i h1 h2 (by simp) h4⟩
theorem Fr7.of_below {a b : World} (h : Below a.heap.size a b) (hl : E.W0.heap.size ≤ a.heap.size) : Fr7 E bt a b := ⟨h.mono hl, fun i h1 _ _ _ => h.block i h1⟩
theorem Fr7.drew {a b : World} (h : Fr7 E bt a b) : Fr7 E bt a b.drew := ⟨h.low.drew, h.mid⟩
theorem Fr7.drewN {a b : World} (h : Fr7 E bt a b) (n : Nat) : Fr7 E bt a (b.drewN n) := ⟨⟨h.low.os, h.low.tape, h.low.output, h.low.size, h.low.block⟩, h.mid⟩
theorem Fr7.alloc {a b : World} (h : Fr7 E bt a b) (hl : E.W0.heap.size ≤ b.heap.size) (o : Obj) : Fr7 E bt a (b.alloc o) :=
  ⟨h.low.alloc hl o, fun i h1 h2 h3 h4 => (Below.heap_alloc _ _ _ (Nat.lt_of_lt_of_le h1 h.low.size)).trans (h.mid i h1 h2 h3 h4)⟩
theorem Fr7.setEx {a b : World} (h : Fr7 E bt a b) {g : Nat} (hg : Ex E g) (hl : E.W0.heap.size ≤ g) (f : Nat) (v : Value) : Fr7 E bt a (b.setCell ⟨g, f, none⟩ v) :=
  ⟨h.low.setCell (p := ⟨g, f, none⟩) hl v, fun i h1 h2 h3 h4 => (Below.heap_setCell _ _ _ _ (fun e => h2 (by rw [e]; exact hg))).trans (h.mid i h1 h2 h3 h4)⟩
theorem Fr7.setT {a b : World} {g : Nat} (h : Fr7 E (some g) a b) (hl : E.W0.heap.size ≤ g) (f : Nat) (v : Value) : Fr7 E (some g) a (b.setCell ⟨g, f, none⟩ v) :=
  ⟨h.low.setCell (p := ⟨g, f, none⟩) hl v, fun i h1 h2 h3 h4 => (Below.heap_setCell _ _ _ _ (fun e => h3 (by rw [e]))).trans (h.mid i h1 h2 h3 h4)⟩
theorem Fr7.setNew {a b : World} (h : Fr7 E bt a b) {g : Nat} (hg : a.heap.size ≤ g) (hl : E.W0.heap.size ≤ g) (f : Nat) (v : Value) : Fr7 E bt a (b.setCell ⟨g, f, none⟩ v) :=
  ⟨h.low.setCell (p := ⟨g, f, none⟩) hl v, fun i h1 h2 h3 h4 => (Below.heap_setCell _ _ _ _ (by simp only; omega)).trans (h.mid i h1 h2 h3 h4)⟩
theorem Wh.cellsAt (h : Wh E w d) (f : Nat) : w.cell? ⟨E.bw, f, none⟩ = (d.box E)[f]? := cell_of_row _ _ _ _ _ _ h.box
theorem Wh.frozen (h : Wh E w d) (f : Nat) : w.frozen? ⟨E.bw, f, none⟩ = false := frozen_of_row w _ f _ _ h.box
theorem Wh.lt (h : Wh E w d) : E.bw < w.heap.size := lt_of_block h.box
theorem Wh.size (h : Wh E w d) : E.W0.heap.size ≤ w.heap.size := h.base.size
theorem Wh.exlo (h : Wh E w d) {k : Nat} (hk : Ex E k) : E.W0.heap.size ≤ k ∧ k < w.heap.size := by
  rcases hk with rfl | hk | hk
  · exact ⟨h.lo, h.lt⟩
  · exact h.fut.lt k hk
  · exact h.was.lt k hk
theorem Wh.exTyp (h : Wh E w d) {g : Nat} {cs : Array Value} {T : TypeId} {fz : Nat × Nat} (hg : w.heap[g]? = some (.cells cs T fz)) (h1 : T ≠ 66) (h2 : T ≠ 3) (h3 : T ≠ 4) : ¬ Ex E g := by
  rintro (rfl | hk | hk)
  · rw [h.box] at hg
    simp at hg
    exact h1 hg.2.1.symm
  · exact own_typ h.fut hg h2.symm hk
  · exact own_typ h.was hg h3.symm hk
/-- as it was, where its blocks are -/
theorem Wh.same (h : Wh E w d) (hb : Below E.W0.heap.size w w') (hk : ∀ k, Ex E k ∨ d.rv.ownBlock = some k → w'.heap[k]? = w.heap[k]?) : Wh E w' d :=
  ⟨h.base.trans hb, h.lo, (hk _ (.inl (.inl rfl))).trans h.box, own_same7 h.ran fun g hg => hk g (.inr hg), own_same7 h.fut fun g hg => hk g (.inl (.inr (.inl hg))), own_same7 h.was fun g hg => hk g (.inl (.inr (.inr hg))), h.fns⟩
theorem Wh.rvlt (h : Wh E w d) {k : Nat} (hk : Ex E k ∨ d.rv.ownBlock = some k) : k < w.heap.size := by
  rcases hk with hk | hk
  · exact (h.exlo hk).2
  · exact (h.ran.lt k hk).2
theorem Wh.below (h : Wh E w d) (hb : Below w.heap.size w w') : Wh E w' d := h.same (hb.mono h.size) fun k hk => hb.block k (h.rvlt hk)
theorem Wh.alloc (h : Wh E w d) (o : Obj) : Wh E (w.alloc o) d := h.below ((Below.refl _ _).alloc (Nat.le_refl _) o)
theorem Wh.drew (h : Wh E w d) : Wh E w.drew d := h.below (Below.refl _ _).drew
theorem Wh.drewN (h : Wh E w d) (n : Nat) : Wh E (w.drewN n) d := h.below ⟨rfl, rfl, rfl, Nat.le_refl _, fun _ _ => rfl⟩
/-- another block turned -/
theorem Wh.setOther (h : Wh E w d) {g : Nat} {cs : Array Value} {T : TypeId} {fz : Nat × Nat} (hg : w.heap[g]? = some (.cells cs T fz)) (h1 : T ≠ 66) (h2 : T ≠ 3) (h3 : T ≠ 4) (h4 : T ≠ 60) (hl : E.W0.heap.size ≤ g) (f : Nat) (v : Value) : Wh E (w.setCell ⟨g, f, none⟩ v) d := by
  refine h.same ((Below.refl _ _).setCell (p := ⟨g, f, none⟩) hl v) fun k hk => Below.heap_setCell _ _ _ _ ?_
  rintro rfl
  rcases hk with hk | hk
  · exact h.exTyp hg h1 h2 h3 hk
  · exact own_typ h.ran hg h4.symm hk
/-- its own box turned -/
theorem Wh.setBox (h : Wh E w d) (f : Nat) (v : Value) (d' : Wd) (hc : (d.box E).setIfInBounds f v = d'.box E) (h1 : d'.rv = d.rv) (h2 : d'.C = d.C) (h3 : d'.fu = d.fu) (h4 : d'.ws = d.ws) : Wh E (w.setCell ⟨E.bw, f, none⟩ v) d' := by
  have hs : ∀ b, b ≠ E.bw → (w.setCell ⟨E.bw, f, none⟩ v).heap[b]? = w.heap[b]? := fun b hb => Below.heap_setCell _ _ _ _ hb
  refine ⟨h.base.setCell (p := ⟨E.bw, f, none⟩) h.lo v, h.lo, ?_, ?_, ?_, ?_, h.fns⟩
  · rw [heap_setCell_same _ _ _ _ _ _ h.box, hc]
  · rw [h1, h2]; exact own_same7 h.ran fun g hg => hs g fun e => own_typ h.ran h.box (by decide) (by rw [← e]; exact hg)
  · rw [h3]; exact own_same7 h.fut fun g hg => hs g fun e => own_typ h.fut h.box (by decide) (by rw [← e]; exact hg)
  · rw [h4]; exact own_same7 h.was fun g hg => hs g fun e => own_typ h.was h.box (by decide) (by rw [← e]; exact hg)
theorem Wh.setSt (h : Wh E w d) (n : Nat) : Wh E (w.setCell ⟨E.bw, 5, none⟩ (.int .i64 n)) { d with st := n } := h.setBox 5 _ _ rfl rfl rfl rfl rfl
theorem Wh.setFk (h : Wh E w d) (n : Nat) : Wh E (w.setCell ⟨E.bw, 6, none⟩ (.int .i64 n)) { d with fk := n } := h.setBox 6 _ _ rfl rfl rfl rfl rfl
theorem own_set1 {w : World} {B e n g cap : Nat} {xs : List Value} (h : w.ownsRow B e 1 (.slice (some ⟨g, 0, none⟩) n cap) n xs) (k : Nat) (v : Value) : (w.setCell ⟨g, k, none⟩ v).ownsRow B e 1 (.slice (some ⟨g, 0, none⟩) n cap) n (xs.set k v) := by
  rcases h.2 with ⟨h0, _⟩ | ⟨g', cap', cur, h0, h1, h2, h3, h4, h5, h6⟩
  · cases h0
  · cases h0
    refine ⟨by simp [h.1], .inr ⟨g, cap, cur.setIfInBounds k v, rfl, h1, ?_, h3, h4, by simp [h5], ?_⟩⟩
    · rw [heap_setCell_same _ _ _ _ _ _ h2]
    · rw [Array.toList_setIfInBounds, ← h6, List.take_set]
theorem Wh.setFut (h : Wh E w d) {g cap : Nat} (hv : E.uv = .slice (some ⟨g, 0, none⟩) d.fu.length cap) (k : Nat) (x : Int) : Wh E (w.setCell ⟨g, k, none⟩ (.int .i64 x)) { d with fu := d.fu.set k x } := by
  have hgo : E.uv.ownBlock = some g := by rw [hv]; rfl
  have hs : ∀ b, b ≠ g → (w.setCell ⟨g, k, none⟩ (.int .i64 x)).heap[b]? = w.heap[b]? := fun b hb => Below.heap_setCell _ _ _ _ hb
  have ho := h.fut
  rw [hv] at ho
  refine ⟨h.base.setCell (p := ⟨g, k, none⟩) (h.fut.lt g hgo).1 _, h.lo, (hs _ fun e => own_typ h.fut h.box (by decide) (by rw [e]; exact hgo)).trans h.box, own_same7 h.ran fun b hb => hs b fun e => own_apart h.fut h.ran (by decide) g hgo (by rw [← e]; exact hb), ?_, own_same7 h.was fun b hb => hs b fun e => own_apart h.fut h.was (by decide) g hgo (by rw [← e]; exact hb), h.fns⟩
  have := own_set1 ho k (.int .i64 x)
  rw [hv, List.length_set, List.map_set]
  exact this
theorem Wh.setWas (h : Wh E w d) {g cap : Nat} (hv : E.sv = .slice (some ⟨g, 0, none⟩) d.ws.length cap) (k : Nat) (x : Bool) : Wh E (w.setCell ⟨g, k, none⟩ (.bool x)) { d with ws := d.ws.set k x } := by
  have hgo : E.sv.ownBlock = some g := by rw [hv]; rfl
  have hs : ∀ b, b ≠ g → (w.setCell ⟨g, k, none⟩ (.bool x)).heap[b]? = w.heap[b]? := fun b hb => Below.heap_setCell _ _ _ _ hb
  have ho := h.was
  rw [hv] at ho
  refine ⟨h.base.setCell (p := ⟨g, k, none⟩) (h.was.lt g hgo).1 _, h.lo, (hs _ fun e => own_typ h.was h.box (by decide) (by rw [e]; exact hgo)).trans h.box, own_same7 h.ran fun b hb => hs b fun e => own_apart h.was h.ran (by decide) g hgo (by rw [← e]; exact hb), own_same7 h.fut fun b hb => hs b fun e => own_apart h.was h.fut (by decide) g hgo (by rw [← e]; exact hb), ?_, h.fns⟩
  have := own_set1 ho k (.bool x)
  rw [hv, List.length_set, List.map_set]
  exact this
end
/-- a hand, as package eval has it -/
def hdE (t : Ts) (i : Nat) : En := if t.has.getD i false = true then t.hand.getD i en0 else en0
def tkC (bw : Nat) (cv : Value) (t : Ts) : Array Value := #[.pointer (some ⟨bw, 0, none⟩), .int .i64 t.key, cv, .int .i64 t.at_, .int .i64 t.fuel, .int .i64 t.forks,
  .int .i64 (t.reg.getD 0 0), .int .i64 (t.reg.getD 1 0), .int .i64 (t.reg.getD 2 0), .int .i64 (t.reg.getD 3 0), .int .i64 (t.reg.getD 4 0), .int .i64 (t.reg.getD 5 0), .int .i64 (t.reg.getD 6 0), .int .i64 (t.reg.getD 7 0),
  .int .i64 (hdE t 0).h, .int .i64 (hdE t 0).v, .int .i64 (hdE t 1).h, .int .i64 (hdE t 1).v, .int .i64 (hdE t 2).h, .int .i64 (hdE t 2).v, .int .i64 (hdE t 3).h, .int .i64 (hdE t 3).v]
structure Tk7 (E : Ev7) (w : World) (bt : Nat) (cv : Value) (t : Ts) : Prop where
  lo : E.W0.heap.size ≤ bt
  box : w.heap[bt]? = some (.cells (tkC E.bw cv t) 82 (0, 0))
section
variable {E : Ev7} {w w' : World} {d : Wd} {bt : Nat} {cv : Value} {t : Ts}
theorem Tk7.cellAt (h : Tk7 E w bt cv t) (f : Nat) : w.cell? ⟨bt, f, none⟩ = (tkC E.bw cv t)[f]? := cell_of_row _ _ _ _ _ _ h.box
theorem Tk7.frozen (h : Tk7 E w bt cv t) (f : Nat) : w.frozen? ⟨bt, f, none⟩ = false := frozen_of_row w _ f _ _ h.box
theorem Tk7.lt (h : Tk7 E w bt cv t) : bt < w.heap.size := lt_of_block h.box
theorem Tk7.reg (h : Tk7 E w bt cv t) {i : Nat} (hi : i < 8) : w.cell? ⟨bt, 6 + i, none⟩ = some (.int .i64 (t.reg.getD i 0)) := by
  rw [h.cellAt]
  match i, hi with
  | 0, _ => rfl
  | 1, _ => rfl
  | 2, _ => rfl
  | 3, _ => rfl
  | 4, _ => rfl
  | 5, _ => rfl
  | 6, _ => rfl
  | 7, _ => rfl
theorem Tk7.hand (h : Tk7 E w bt cv t) {i : Nat} (hi : i < 4) : w.cell? ⟨bt, 14 + i * 2, none⟩ = some (.int .i64 (hdE t i).h) ∧ w.cell? ⟨bt, 14 + i * 2 + 1, none⟩ = some (.int .i64 (hdE t i).v) := by
  rw [h.cellAt, h.cellAt]
  match i, hi with
  | 0, _ => exact ⟨rfl, rfl⟩
  | 1, _ => exact ⟨rfl, rfl⟩
  | 2, _ => exact ⟨rfl, rfl⟩
  | 3, _ => exact ⟨rfl, rfl⟩
theorem Tk7.same (h : Tk7 E w bt cv t) (hb : w'.heap[bt]? = w.heap[bt]?) : Tk7 E w' bt cv t := ⟨h.lo, hb.trans h.box⟩
theorem Tk7.below (h : Tk7 E w bt cv t) (hb : Below w.heap.size w w') : Tk7 E w' bt cv t := h.same (hb.block bt h.lt)
theorem Tk7.alloc (h : Tk7 E w bt cv t) (o : Obj) : Tk7 E (w.alloc o) bt cv t := h.same (Below.heap_alloc _ _ _ h.lt)
theorem Tk7.drew (h : Tk7 E w bt cv t) : Tk7 E w.drew bt cv t := ⟨h.lo, h.box⟩
theorem Tk7.drewN (h : Tk7 E w bt cv t) (n : Nat) : Tk7 E (w.drewN n) bt cv t := ⟨h.lo, h.box⟩
theorem Tk7.notEx (h : Tk7 E w bt cv t) (hw : Wh E w d) : ¬ Ex E bt := hw.exTyp h.box (by decide) (by decide) (by decide)
theorem Tk7.notRan (h : Tk7 E w bt cv t) : NotRan w bt := fun cs fz e => by
  rw [h.box] at e
  simp at e
theorem Tk7.setEx (h : Tk7 E w bt cv t) (hw : Wh E w d) {g : Nat} (hg : Ex E g) (f : Nat) (v : Value) : Tk7 E (w.setCell ⟨g, f, none⟩ v) bt cv t := h.same (Below.heap_setCell _ _ _ _ fun e => h.notEx hw (by rw [e]; exact hg))
theorem Tk7.setNe (h : Tk7 E w bt cv t) {g : Nat} (hg : bt ≠ g) (f : Nat) (v : Value) : Tk7 E (w.setCell ⟨g, f, none⟩ v) bt cv t := h.same (Below.heap_setCell _ _ _ _ hg)
theorem Tk7.frame (h : Tk7 E w bt cv t) (hw : Wh E w d) (hf : Fr7 E none w w') : Tk7 E w' bt cv t := h.same (hf.mid bt h.lt (h.notEx hw) (by simp) h.notRan)
theorem Wh.setT (hw : Wh E w d) (h : Tk7 E w bt cv t) (f : Nat) (v : Value) : Wh E (w.setCell ⟨bt, f, none⟩ v) d := hw.setOther h.box (by decide) (by decide) (by decide) (by decide) h.lo f v
theorem Tk7.setAny (h : Tk7 E w bt cv t) (f : Nat) (v : Value) {t' : Ts} (hc : (tkC E.bw cv t).setIfInBounds f v = tkC E.bw cv t') : Tk7 E (w.setCell ⟨bt, f, none⟩ v) bt cv t' := ⟨h.lo, by rw [heap_setCell_same _ _ _ _ _ _ h.box, hc]⟩
theorem Tk7.setAt (h : Tk7 E w bt cv t) (n : Nat) : Tk7 E (w.setCell ⟨bt, 3, none⟩ (.int .i64 n)) bt cv { t with at_ := n } := h.setAny 3 _ rfl
theorem Tk7.setFuel (h : Tk7 E w bt cv t) (n : Nat) : Tk7 E (w.setCell ⟨bt, 4, none⟩ (.int .i64 n)) bt cv { t with fuel := n } := h.setAny 4 _ rfl
theorem Tk7.setForks (h : Tk7 E w bt cv t) (n : Nat) : Tk7 E (w.setCell ⟨bt, 5, none⟩ (.int .i64 n)) bt cv { t with forks := n } := h.setAny 5 _ rfl
theorem Tk7.setReg (h : Tk7 E w bt cv t) (hl : t.reg.length = 8) {i : Nat} (hi : i < 8) (x : Int) : Tk7 E (w.setCell ⟨bt, 6 + i, none⟩ (.int .i64 x)) bt cv (t.put i x) := by
  refine h.setAny (6 + i) _ ?_
  obtain ⟨reg, has, hand, fn, at_, fuel, forks, key, e⟩ := t
  simp only at hl
  match reg, hl with
  | [a, b, c, d, e', f, g, z], _ =>
    match i, hi with
    | 0, _ => rfl
    | 1, _ => rfl
    | 2, _ => rfl
    | 3, _ => rfl
    | 4, _ => rfl
    | 5, _ => rfl
    | 6, _ => rfl
    | 7, _ => rfl
theorem hdE_set (t : Ts) {i : Nat} (h1 : i < t.has.length) (h2 : i < t.hand.length) (b : Bool) (e : En) (j : Nat) (t' : Ts) (e1 : t'.has = t.has.set i b) (e2 : t'.hand = t.hand.set i e) : hdE t' j = if i = j then (if b = true then e else en0) else hdE t j := by
  unfold hdE
  rw [e1, e2, getD_set, getD_set]
  by_cases hj : i = j
  · subst hj
    simp [h1, h2]
  · simp [hj]
/-- both cells of a hand laid -/
theorem Tk7.setHand (h : Tk7 E w bt cv t) {i : Nat} (hi : i < 4) (x y : Int) {t' : Ts} (e1 : t'.reg = t.reg) (e2 : t'.key = t.key) (e3 : t'.at_ = t.at_) (e4 : t'.fuel = t.fuel) (e5 : t'.forks = t.forks) (hd : ∀ j, hdE t' j = if i = j then ⟨x, y⟩ else hdE t j) : Tk7 E ((w.setCell ⟨bt, 14 + i * 2, none⟩ (.int .i64 x)).setCell ⟨bt, 14 + i * 2 + 1, none⟩ (.int .i64 y)) bt cv t' := by
  refine ⟨h.lo, ?_⟩
  rw [heap_setCell_same _ _ _ _ _ _ (heap_setCell_same _ _ _ _ _ _ h.box)]
  congr 2
  unfold tkC
  rw [e1, e2, e3, e4, e5, hd 0, hd 1, hd 2, hd 3]
  match i, hi with
  | 0, _ => rfl
  | 1, _ => rfl
  | 2, _ => rfl
  | 3, _ => rfl
end
end Go.Proofs.YtpmapdialjdcbaaDoor
namespace Go.Proofs.YtpmapdialjdcbaaDoor
open Go.RowKit
open C2 (In Pr SlF SlI InsAt still_of_below)

abbrev endI (e : En) : Value := .iface 100 (.agg #[.int .i64 e.h, .int .i64 e.v])
abbrev pan (e : En) : Ending := .panicked [{ v := endI e, recovered := false }]
theorem stop_any (v : Value) (h : Int) (w : World) : Calls Tryd.prog 81 #[v, .int .i64 h] w fun e w' => e = pan ⟨h, 0⟩ ∧ w' = w := by
  go_enter Tryd.func81, Tryd.ntmps81
  go_wp2_with fail
  exact ⟨rfl, rfl, rfl⟩
theorem over_any {E : Ev7} {w : World} {d : Wd} (hw : Wh E w d) : Calls Tryd.prog 24 #[.pointer (some ⟨E.bw, 0, none⟩)] w fun e w' => e = .returned (.bool (decide (E.M < d.st))) ∧ ∃ n, w' = w.drewN n := by
  have c1 := hw.cellsAt 5
  have c2 := hw.cellsAt 4
  simp [Wd.box] at c1 c2
  go_enter Tryd.func24, Tryd.ntmps24
  go_wp2_with fail
  go_quiet (fail)
  go_wp2_with fail
  go_ret
  exact ⟨rfl, _, rfl⟩
theorem spend_none {E : Ev7} {w : World} {bt : Nat} {cv : Value} {t : Ts} (ht : Tk7 E w bt cv t) (hf : t.fuel = 0) : Calls Tryd.prog 64 #[.pointer (some ⟨bt, 0, none⟩)] w fun e w' => e = pan ⟨5, 0⟩ ∧ w' = w := by
  have c1 := ht.cellAt 4
  simp [tkC, hf] at c1
  go_enter Tryd.func64, Tryd.ntmps64
  go_wp2_with fail
  refine (stop_any _ _ _).mono ?_
  rintro e w' ⟨rfl, rfl⟩
  go_wp2_with fail
  exact ⟨rfl, rfl, rfl⟩
theorem spend_some {E : Ev7} {w : World} {d : Wd} {bt : Nat} {cv : Value} {t : Ts} (hw : Wh E w d) (ht : Tk7 E w bt cv t) (hf : t.fuel ≠ 0) (hf2 : t.fuel ≤ 500) (hs : d.st ≤ 1000000) : Calls Tryd.prog 64 #[.pointer (some ⟨bt, 0, none⟩)] w fun e w' =>
    e = (if E.M < d.st + 1 then pan ⟨0, 0⟩ else .returned (.tuple #[])) ∧ Wh E w' { d with st := d.st + 1 } ∧ Tk7 E w' bt cv { t with fuel := t.fuel - 1 } ∧ Fr7 E (some bt) w w' := by
  obtain ⟨m, hm⟩ : ∃ m, t.fuel = m + 1 := ⟨t.fuel - 1, by omega⟩
  have c0 := ht.cellAt 0
  have c1 := ht.cellAt 4
  have f1 := ht.frozen 4
  have f5 := hw.frozen 5
  have c5 := hw.cellsAt 5
  have hne : E.bw ≠ bt := fun e => ht.notEx hw (.inl e.symm)
  have hne2 : bt ≠ E.bw := fun e => hne e.symm
  have ht1 := ht.setFuel m
  have hw1 := hw.setT ht 4 (.int .i64 (m : Nat))
  have ht2 := ht1.setEx hw1 (.inl rfl) 5 (.int .i64 ((d.st + 1 : Nat) : Int))
  have hw2 := hw1.setSt (d.st + 1)
  have d0 := ht2.cellAt 0
  have hF : Fr7 E (some bt) w ((w.setCell ⟨bt, 4, none⟩ (.int .i64 (m : Nat))).setCell ⟨E.bw, 5, none⟩ (.int .i64 ((d.st + 1 : Nat) : Int))) := ((Fr7.refl E _ w).setT ht.lo 4 _).setEx (.inl rfl) hw.lo 5 _
  simp [tkC, hm, Wd.box] at c0 c1 c5 d0
  have hm5 : m ≤ 500 := by omega
  have HOV : Hid (∀ w, Wh E w { d with st := d.st + 1 } → Calls Tryd.prog 24 #[.pointer (some ⟨E.bw, 0, none⟩)] w fun e w' => e = .returned (.bool (decide (E.M < d.st + 1))) ∧ ∃ n, w' = w.drewN n) := fun w h => over_any h
  rw [show ((d.st + 1 : Nat) : Int) = (d.st : Int) + 1 by omega] at hF
  have hst : (d.st : Int) ≤ 1000000 := by omega
  have hfm : t.fuel - 1 = m := by omega
  rw [hfm]
  clear hfm hm hf hf2 ht1 hw1 hw ht
  by_cases hov : E.M < d.st + 1
  · rw [if_pos hov]
    go_enter Tryd.func64, Tryd.ntmps64
    go_wp2_with fail
    refine (HOV.out _ hw2).mono ?_
    rintro e w3 ⟨rfl, n, rfl⟩
    go_wp2_with fail
    refine (stop_any _ _ _).mono ?_
    rintro e w' ⟨rfl, rfl⟩
    go_wp2_with fail
    exact ⟨rfl, rfl, hw2.drewN n, ht2.drewN n, hF.drewN n⟩
  · rw [if_neg hov]
    go_enter Tryd.func64, Tryd.ntmps64
    go_wp2_with fail
    refine (HOV.out _ hw2).mono ?_
    rintro e w3 ⟨rfl, n, rfl⟩
    go_wp2_with fail
    exact bodyPost_end (v := .tuple #[]) (by simp [results, Tryd.results64, go_sem]) rfl ⟨rfl, hw2.drewN n, ht2.drewN n, hF.drewN n⟩
/-- held: what the task in a hand ended with -/
theorem held_any {E : Ev7} {w : World} {bt : Nat} {cv : Value} {t : Ts} (ht : Tk7 E w bt cv t) {i : Nat} (hi : i < 4) : Calls Tryd.prog 74 #[.pointer (some ⟨bt, 0, none⟩), .int .i64 i] w fun e w' =>
    e = (if (hdE t i).h = 0 then pan ⟨7, 0⟩ else .returned (.agg #[.int .i64 (hdE t i).h, .int .i64 (hdE t i).v])) ∧ Below w.heap.size w w' := by
  obtain ⟨c1, c2⟩ := ht.hand hi
  generalize hdE t i = x at *
  have hlt := ht.lt
  by_cases h0 : x.h = 0
  · rw [h0] at c1
    rw [if_pos h0]
    go_enter Tryd.func74, Tryd.ntmps74
    go_wp2_with fail
    refine (stop_any _ _ _).mono ?_
    rintro e w' ⟨rfl, rfl⟩
    go_wp2_with fail
    exact ⟨rfl, rfl, C2.below_alloc (C2.below_alloc (Below.refl _ _) _) _⟩
  · rw [if_neg h0]
    have e0 : (x.h == 0) = false := by simpa using h0
    go_enter Tryd.func74, Tryd.ntmps74
    go_wp2_with fail
    exact bodyPost_ret (v := .agg #[.int .i64 x.h, .int .i64 x.v]) (by simp [results, Tryd.results74, go_sem]) rfl ⟨rfl, C2.below_alloc (C2.below_alloc (Below.refl _ _) _) _⟩
end Go.Proofs.YtpmapdialjdcbaaDoor
namespace Go.Proofs.YtpmapdialjdcbaaDoor
open Go.RowKit
open C2 (In Pr SlF SlI InsAt still_of_below)

theorem wrap32_wrp (x : Int) : wrap32 x = wrp x := by unfold wrap32 wrp; omega
theorem v_ok {y : Int} (hy : wrp y = y) : V1.vOk y = !(y == 0) := by unfold V1.vOk; rw [wrap32_wrp, hy]
theorem v_quo {x y : Int} (hx : wrp x = x) (hy : wrp y = y) : V1.vQuo x y = if y = 0 then 0 else wrp (x.tdiv y) := by unfold V1.vQuo; rw [wrap32_wrp, wrap32_wrp, wrap32_wrp, hx, hy]
theorem v_add {x y : Int} (hx : wrp x = x) (hy : wrp y = y) : V1.vAdd x y = wrp (x + y) := by unfold V1.vAdd; rw [wrap32_wrp, wrap32_wrp, wrap32_wrp, hx, hy]
theorem v_sub {x y : Int} (hx : wrp x = x) (hy : wrp y = y) : V1.vSub x y = wrp (x - y) := by unfold V1.vSub; rw [wrap32_wrp, wrap32_wrp, wrap32_wrp, hx, hy]
theorem v_mul {x y : Int} (hx : wrp x = x) (hy : wrp y = y) : V1.vMul x y = wrp (x * y) := by unfold V1.vMul; rw [wrap32_wrp, wrap32_wrp, wrap32_wrp, hx, hy]
theorem v_less {x y : Int} (hx : wrp x = x) (hy : wrp y = y) : V1.vLess x y = lessI x y := by unfold V1.vLess; rw [wrap32_wrp, wrap32_wrp, hx, hy]; rfl
theorem v_wrap (x : Int) : V1.vWrap x = wrp x := wrap32_wrp x
/-- what a step leaves: the task goes on as t', or it ends as t' does -/
structure Sp (E : Ev7) (bt : Nat) (cv : Value) (w : World) (d' : Wd) (t' : Ts) (e : Ending) (w' : World) : Prop where
  how : (t'.e.h = 0 ∧ e = .returned (.tuple #[]) ∧ Tk7 E w' bt cv t') ∨ (t'.e.h ≠ 0 ∧ e = pan t'.e)
  wh : Wh E w' d'
  fr : Fr7 E (some bt) w w'
theorem divide_any {E : Ev7} {w : World} {d : Wd} {bt : Nat} {cv : Value} {t : Ts} (hw : Wh E w d) (ht : Tk7 E w bt cv t) (he : t.e = en0) (hl : t.reg.length = 8) (hr : ∀ x ∈ t.reg, wrp x = x) {n a b : Nat} (hn : n < 8) (ha : a < 8) (hb : b < 8) :
    Calls Tryd.prog 68 #[.pointer (some ⟨bt, 0, none⟩), .int .i64 n, .int .i64 a, .int .i64 b] w fun e w' => Sp E bt cv w d (if rg t b = 0 then t.ends 2 else t.put n (wrp ((rg t a).tdiv (rg t b)))) e w' := by
  have ca := ht.reg ha
  have cb := ht.reg hb
  have ra : wrp (t.reg.getD a 0) = t.reg.getD a 0 := hr _ (getD_mem (by omega) 0)
  have rb : wrp (t.reg.getD b 0) = t.reg.getD b 0 := hr _ (getD_mem (by omega) 0)
  have fz := ht.frozen (6 + n)
  have cn := ht.reg hn
  have ga : rg t a = t.reg.getD a 0 := rfl
  have gb : rg t b = t.reg.getD b 0 := rfl
  rw [ga, gb]
  generalize t.reg.getD a 0 = x at *
  generalize t.reg.getD b 0 = y at *
  have q := fun w => V1.div_any x y w
  rw [v_ok rb, v_quo ra rb] at q
  clear ra rb
  by_cases h0 : y = 0
  · subst h0
    rw [if_pos rfl]
    have hE : (t.ends 2).e = ⟨2, 0⟩ := by rw [Ts.ends, he]; rfl
    clear ga gb
    simp only [beq_self_eq_true, Bool.not_true, if_true] at q
    go_enter Tryd.func68, Tryd.ntmps68
    go_wp2_with fail
    go_quiet ((go_at_call 85; exact Calls.quiet_of_same (q _)))
    go_wp2_with fail
    refine (stop_any _ _ _).mono ?_
    rintro e w' ⟨rfl, rfl⟩
    go_wp2_with fail
    exact ⟨rfl, .inr ⟨by rw [hE]; decide, by rw [hE]⟩, hw.drewN _, (Fr7.refl _ _ _).drewN _⟩
  · rw [if_neg h0]
    have e0 : (y == 0) = false := by simpa using h0
    rw [e0, if_neg h0] at q
    simp only [Bool.not_false] at q
    clear ga gb
    go_enter Tryd.func68, Tryd.ntmps68
    go_wp2_with fail
    go_quiet ((go_at_call 85; exact Calls.quiet_of_same (q _)))
    go_wp2_with fail
    exact bodyPost_end (v := .tuple #[]) (by simp [results, Tryd.results68, go_sem]) rfl ⟨.inl ⟨by simp [Ts.put, he, en0], rfl, (ht.drewN _).setReg hl hn _⟩, (hw.drewN _).setT (ht.drewN _) _ _, ((Fr7.refl E _ w).drewN _).setT ht.lo _ _⟩
theorem Wh.setT2 {E : Ev7} {w : World} {d : Wd} {bt : Nat} {cv : Value} {t : Ts} (hw : Wh E w d) (h : Tk7 E w bt cv t) (f : Nat) (v : Value) (g : Nat) (u : Value) : Wh E ((w.setCell ⟨bt, f, none⟩ v).setCell ⟨bt, g, none⟩ u) d :=
  (hw.setT h f v).setOther (heap_setCell_same _ _ _ _ _ _ h.box) (by decide) (by decide) (by decide) (by decide) h.lo g u
theorem hdE_clear (t : Ts) {i : Nat} (hh : t.has.length = 4) (hi : i < 4) (j : Nat) : hdE { t with has := t.has.set i false } j = if i = j then ⟨0, 0⟩ else hdE t j := by
  unfold hdE
  simp only
  rw [getD_set]
  by_cases hj : i = j
  · subst hj
    simp [hh, hi, en0]
  · simp [hj]
/-- what Join does -/
def joinT (t : Ts) (n i : Nat) : Ts := if t.has.getD i false = false then t.ends 7 else
  let e := t.hand.getD i en0
  let t1 : Ts := { t with has := t.has.set i false }
  if e.h ≠ 1 then t1.ends e.h else t1.put n e.v
theorem join_any {E : Ev7} {w : World} {d : Wd} {bt : Nat} {cv : Value} {t : Ts} (hw : Wh E w d) (ht : Tk7 E w bt cv t) (he : t.e = en0) (hl : t.reg.length = 8) (hh : t.has.length = 4) (hok : TOk t) {n i : Nat} (hn : n < 8) (hi : i < 4) :
    Calls Tryd.prog 71 #[.pointer (some ⟨bt, 0, none⟩), .int .i64 n, .int .i64 i] w fun e w' => Sp E bt cv w d (joinT t n i) e w' := by
  have q := held_any ht hi
  cases hb : t.has.getD i false with
  | false =>
    have e1 : hdE t i = en0 := by unfold hdE; rw [hb]; rfl
    have e2 : joinT t n i = t.ends 7 := by unfold joinT; rw [if_pos hb]
    have hE : (t.ends 7).e = ⟨7, 0⟩ := by rw [Ts.ends, he]; rfl
    rw [e1, if_pos (show en0.h = 0 from rfl)] at q
    rw [e2]
    clear e1 e2 hb
    go_enter Tryd.func71, Tryd.ntmps71
    go_wp2_with fail
    refine q.mono ?_
    rintro e w1 ⟨rfl, hb1⟩
    go_wp2_with fail
    exact ⟨rfl, .inr ⟨by rw [hE]; decide, by rw [hE]⟩, hw.below hb1, Fr7.of_below hb1 hw.size⟩
  | true =>
    have e1 : hdE t i = t.hand.getD i en0 := by unfold hdE; rw [hb]; rfl
    have hx := hok.hs i hb
    have e2 : joinT t n i = if (t.hand.getD i en0).h ≠ 1 then ({ t with has := t.has.set i false } : Ts).ends (t.hand.getD i en0).h else ({ t with has := t.has.set i false } : Ts).put n (t.hand.getD i en0).v := by unfold joinT; rw [if_neg (by rw [hb]; decide)]
    rw [e1] at q
    rw [e2]
    have HC : Hid (∀ j, hdE { t with has := t.has.set i false } j = if i = j then ⟨0, 0⟩ else hdE t j) := hdE_clear t hh hi
    generalize t.hand.getD i en0 = x at *
    rw [if_neg (by have := hx.1; omega)] at q
    have hlt := ht.lt
    by_cases h1 : x.h = 1
    · rw [if_neg (by simp [h1])]
      rw [h1] at q
      clear e1 e2 hb
      go_enter Tryd.func71, Tryd.ntmps71
      go_wp2_with fail
      refine q.mono ?_
      rintro e w1 ⟨rfl, hb1⟩
      have ht1 := (ht.below hb1).alloc (.cells #[.int .i64 1, .int .i64 x.v] 29)
      have hw1 := (hw.below hb1).alloc (.cells #[.int .i64 1, .int .i64 x.v] 29)
      obtain ⟨c1, c2⟩ := ht1.hand hi
      have cn := ht1.reg hn
      have fz := fun k => ht1.frozen k
      have b1 : (w1.alloc (.cells #[.int .i64 1, .int .i64 x.v] 29)).cell? ⟨w1.heap.size, 1, none⟩ = some (.int .i64 x.v) := by rw [cell_of_row _ _ _ _ _ _ (heap_alloc_new _ _)]; rfl
      have ne1 : w1.heap.size ≠ bt := by have := (ht.below hb1).lt; omega
      have ht2 := ht1.setHand hi 0 0 (t' := { t with has := t.has.set i false }) rfl rfl rfl rfl rfl HC.out
      have hw2 := hw1.setT2 ht1 (14 + i * 2) (.int .i64 0) (14 + i * 2 + 1) (.int .i64 0)
      have hF2 : Fr7 E (some bt) w (((w1.alloc (.cells #[.int .i64 1, .int .i64 x.v] 29)).setCell ⟨bt, 14 + i * 2, none⟩ (.int .i64 0)).setCell ⟨bt, 14 + i * 2 + 1, none⟩ (.int .i64 0)) := (((Fr7.of_below hb1 hw.size).alloc (by have := (hw.below hb1).size; omega) _).setT ht.lo _ _).setT ht.lo _ _
      have b2 : (((w1.alloc (.cells #[.int .i64 1, .int .i64 x.v] 29)).setCell ⟨bt, 14 + i * 2, none⟩ (.int .i64 0)).setCell ⟨bt, 14 + i * 2 + 1, none⟩ (.int .i64 0)).cell? ⟨w1.heap.size, 1, none⟩ = some (.int .i64 x.v) := by
        rw [World.cell?_of_block (Below.heap_setCell _ _ _ _ ne1), World.cell?_of_block (Below.heap_setCell _ _ _ _ ne1)]
        exact b1
      go_wp2_with fail
      generalize ((w1.alloc (.cells #[.int .i64 1, .int .i64 x.v] 29)).setCell ⟨bt, 14 + i * 2, none⟩ (.int .i64 0)).setCell ⟨bt, 14 + i * 2 + 1, none⟩ (.int .i64 0) = w2 at *
      clear c1 c2 cn fz b1 ht1 hw1 hb1 q HC
      have cn := ht2.reg hn
      have fz := ht2.frozen (6 + n)
      go_region
      all_goals
        exact bodyPost_end (v := .tuple #[]) (by simp [results, Tryd.results71, go_sem]) rfl ⟨.inl ⟨by simp [Ts.put, he, en0], rfl, ht2.drew.setReg hl hn _⟩, hw2.drew.setT ht2.drew _ _, hF2.drew.setT ht.lo _ _⟩
    · rw [if_pos h1]
      have e0 : (x.h != 1) = true := by simpa using h1
      have hE : (({ t with has := t.has.set i false } : Ts).ends x.h).e = ⟨x.h, 0⟩ := by rw [Ts.ends]; simp [he, en0]
      clear e1 e2 hb
      go_enter Tryd.func71, Tryd.ntmps71
      go_wp2_with fail
      refine q.mono ?_
      rintro e w1 ⟨rfl, hb1⟩
      have ht1 := (ht.below hb1).alloc (.cells #[.int .i64 x.h, .int .i64 x.v] 29)
      have hw1 := (hw.below hb1).alloc (.cells #[.int .i64 x.h, .int .i64 x.v] 29)
      obtain ⟨c1, c2⟩ := ht1.hand hi
      have fz := fun k => ht1.frozen k
      have hw2 := hw1.setT2 ht1 (14 + i * 2) (.int .i64 0) (14 + i * 2 + 1) (.int .i64 0)
      have hF2 : Fr7 E (some bt) w (((w1.alloc (.cells #[.int .i64 x.h, .int .i64 x.v] 29)).setCell ⟨bt, 14 + i * 2, none⟩ (.int .i64 0)).setCell ⟨bt, 14 + i * 2 + 1, none⟩ (.int .i64 0)) := (((Fr7.of_below hb1 hw.size).alloc (by have := (hw.below hb1).size; omega) _).setT ht.lo _ _).setT ht.lo _ _
      have ne1 : w1.heap.size ≠ bt := by have := (ht.below hb1).lt; omega
      have ne2 : bt ≠ w1.heap.size := fun e => ne1 e.symm
      clear hb1
      go_wp2_with fail
      refine (stop_any _ _ _).mono ?_
      rintro e w' ⟨rfl, rfl⟩
      go_wp2_with fail
      exact ⟨rfl, .inr ⟨by rw [hE]; have := hx.1; simp only; omega, by rw [hE]⟩, hw2, hF2⟩
end Go.Proofs.YtpmapdialjdcbaaDoor
namespace Go.Proofs.YtpmapdialjdcbaaDoor
open Go.RowKit
open C2 (In Pr SlF SlI InsAt still_of_below)

/-- a row's slice, and a cell of it -/
theorem own_at1 {w : World} {B e : Nat} {v : Value} {n : Nat} {xs : List Value} (h : w.ownsRow B e 1 v n xs) {k : Nat} (hk : k < n) : ∃ g cap x, v = .slice (some ⟨g, 0, none⟩) n cap ∧ v.ownBlock = some g ∧ xs[k]? = some x ∧ w.cell? ⟨g, k, none⟩ = some x ∧ w.frozen? ⟨g, k, none⟩ = false ∧ n ≤ cap := by
  rcases h.2 with ⟨rfl, rfl⟩ | ⟨g, cap, cur, rfl, h1, h2, h3, h4, h5, h6⟩
  · omega
  · have hx : k < xs.length := by rw [h.1]; omega
    refine ⟨g, cap, xs[k], rfl, rfl, List.getElem?_eq_getElem hx, ?_, frozen_of_row w _ k _ _ h2, h3⟩
    rw [cell_of_row _ _ _ _ _ _ h2, ← Array.getElem?_toList, ← List.getElem?_eq_getElem hx, ← h6, List.getElem?_take, if_pos (by omega)]
theorem set_any {E : Ev7} {w : World} {d : Wd} {bt : Nat} {cv : Value} {t : Ts} (hw : Wh E w d) (ht : Tk7 E w bt cv t) (he : t.e = en0) {n i : Nat} (hn : n < d.ws.length) (hf : d.fu.length = d.ws.length) (hi : i < 8) :
    Calls Tryd.prog 72 #[.pointer (some ⟨bt, 0, none⟩), .int .i64 n, .int .i64 i] w fun e w' => Sp E bt cv w (if d.ws.getD n false = true then d else { d with ws := d.ws.set n true, fu := d.fu.set n (rg t i) }) (if d.ws.getD n false = true then t.ends 3 else t) e w' := by
  obtain ⟨g, cap, x, hv, hg, hx, cx, fx, hcap⟩ := own_at1 hw.was hn
  obtain ⟨g2, cap2, x2, hv2, hg2, hx2, cx2, fx2, hcap2⟩ := own_at1 hw.fut (k := n) (by omega)
  have hxb : x = .bool (d.ws.getD n false) := by
    rw [List.getElem?_map, List.getElem?_eq_getElem hn] at hx
    simp at hx
    rw [← hx, List.getD_eq_getElem?_getD, List.getElem?_eq_getElem hn]
    rfl
  subst hxb
  have ci := ht.reg hi
  have ct := ht.cellAt 0
  have c9 := hw.cellsAt 9
  have gi : rg t i = t.reg.getD i 0 := rfl
  rw [gi]
  obtain ⟨y, hri⟩ : ∃ y, t.reg.getD i 0 = y := ⟨_, rfl⟩
  rw [hri] at ci ⊢
  clear gi
  simp [tkC, Wd.box] at ct c9
  rw [hv] at c9
  have hlw : (n : Int) < d.ws.length := by omega
  cases hb : d.ws.getD n false with
  | true =>
    rw [hb] at cx
    have hE : (t.ends 3).e = ⟨3, 0⟩ := by rw [Ts.ends, he]; rfl
    simp only [if_true]
    clear hb hx hx2
    go_enter Tryd.func72, Tryd.ntmps72
    go_wp2_with fail
    refine (stop_any _ _ _).mono ?_
    rintro e w' ⟨rfl, rfl⟩
    go_wp2_with fail
    exact ⟨rfl, .inr ⟨by rw [hE]; decide, by rw [hE]⟩, hw, Fr7.refl _ _ _⟩
  | false =>
    rw [hb] at cx
    simp only [Bool.false_eq_true, if_false]
    have hw1 := hw.setWas hv n true
    have ht1 := ht.setEx hw (g := g) (.inr (.inr hg)) n (.bool true)
    have hF1 : Fr7 E (some bt) w (w.setCell ⟨g, n, none⟩ (.bool true)) := (Fr7.refl _ _ _).setEx (.inr (.inr hg)) (hw.exlo (.inr (.inr hg))).1 _ _
    clear hb hx hx2
    go_enter Tryd.func72, Tryd.ntmps72
    go_wp2_with fail
    generalize w.setCell ⟨g, n, none⟩ (.bool true) = w1 at *
    obtain ⟨g2', cap2', x2', hv2', hg2', -, cy2, fy2, -⟩ := own_at1 hw1.fut (k := n) (by simp only; omega)
    have di := ht1.reg hi
    rw [hri] at di
    have dt := ht1.cellAt 0
    have d8 := hw1.cellsAt 8
    simp [tkC, Wd.box] at dt d8
    rw [hv2'] at d8
    simp only at d8
    have hlf : (n : Int) < d.fu.length := by omega
    have hcl : n < d.fu.length := by omega
    clear cx2 fx2 cx fx c9 ct ci hv2 hg2 hw ht
    go_region
    all_goals
      exact bodyPost_end (v := .tuple #[]) (by simp [results, Tryd.results72, go_sem]) rfl ⟨.inl ⟨by rw [he]; rfl, rfl, ht1.drew.setEx hw1.drew (.inr (.inl hg2')) n _⟩, hw1.drew.setFut hv2' n y, hF1.drew.setEx (.inr (.inl hg2')) (hw1.exlo (.inr (.inl hg2'))).1 _ _⟩
theorem get_any {E : Ev7} {w : World} {d : Wd} {bt : Nat} {cv : Value} {t : Ts} (hw : Wh E w d) (ht : Tk7 E w bt cv t) (he : t.e = en0) (hl : t.reg.length = 8) {n i : Nat} (hn : n < d.ws.length) (hf : d.fu.length = d.ws.length) (hi : i < 8) :
    Calls Tryd.prog 73 #[.pointer (some ⟨bt, 0, none⟩), .int .i64 i, .int .i64 n] w fun e w' => Sp E bt cv w d (if d.ws.getD n false = false then t.ends 4 else t.put i (d.fu.getD n 0)) e w' := by
  obtain ⟨g, cap, x, hv, hg, hx, cx, fx, hcap⟩ := own_at1 hw.was hn
  obtain ⟨g2, cap2, x2, hv2, hg2, hx2, cx2, fx2, hcap2⟩ := own_at1 hw.fut (k := n) (by omega)
  have hxb : x = .bool (d.ws.getD n false) := by
    rw [List.getElem?_map, List.getElem?_eq_getElem hn] at hx
    simp at hx
    rw [← hx, List.getD_eq_getElem?_getD, List.getElem?_eq_getElem hn]
    rfl
  have hxi : x2 = .int .i64 (d.fu.getD n 0) := by
    rw [List.getElem?_map, List.getElem?_eq_getElem (by omega)] at hx2
    simp at hx2
    rw [← hx2, List.getD_eq_getElem?_getD, List.getElem?_eq_getElem (by omega)]
    rfl
  subst hxb
  subst hxi
  have ci := ht.reg hi
  have fi := ht.frozen (6 + i)
  have ct := ht.cellAt 0
  have c9 := hw.cellsAt 9
  have c8 := hw.cellsAt 8
  simp [tkC, Wd.box] at ct c9 c8
  rw [hv] at c9
  rw [hv2] at c8
  have hlw : (n : Int) < d.ws.length := by omega
  have hlf : (n : Int) < d.fu.length := by omega
  have hcl : n < d.fu.length := by omega
  generalize d.fu.getD n 0 = y at *
  cases hb : d.ws.getD n false with
  | false =>
    rw [hb] at cx
    have hE : (t.ends 4).e = ⟨4, 0⟩ := by rw [Ts.ends, he]; rfl
    simp only [if_true]
    clear hb hx hx2
    go_enter Tryd.func73, Tryd.ntmps73
    go_wp2_with fail
    refine (stop_any _ _ _).mono ?_
    rintro e w' ⟨rfl, rfl⟩
    go_wp2_with fail
    exact ⟨rfl, .inr ⟨by rw [hE]; decide, by rw [hE]⟩, hw, Fr7.refl _ _ _⟩
  | true =>
    rw [hb] at cx
    simp only [Bool.true_eq_false, if_false]
    clear hb hx hx2
    go_enter Tryd.func73, Tryd.ntmps73
    go_wp2_with fail
    go_region
    all_goals
      exact bodyPost_end (v := .tuple #[]) (by simp [results, Tryd.results73, go_sem]) rfl ⟨.inl ⟨by simp [Ts.put, he, en0], rfl, ht.drew.setReg hl hi _⟩, hw.drew.setT ht.drew _ _, (Fr7.refl _ _ _).drew.setT ht.lo _ _⟩
end Go.Proofs.YtpmapdialjdcbaaDoor
