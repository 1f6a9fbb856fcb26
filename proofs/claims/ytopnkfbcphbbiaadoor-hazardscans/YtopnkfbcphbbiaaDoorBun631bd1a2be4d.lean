/-
  Helpers: A9ArM, A9ArU, A9ArV.
-/
import Derived.Test.YtopnkfbcphbbiaaDoorBune566e3390aca
import Derived.Test.YtopnkfbcphbbiaaDoorBunb505eccc263c
import Derived.Deep.OwnRows
namespace Go.Proofs.YtopnkfbcphbbiaaDoor.A9
open Go.RowKit
open H8 (okP packV packF opA opB opC isH sizeF szT HTab)

/-- the blocks of an arena -/
structure Ab where
  b : Nat
  r : Nat
  m : Nat
  c : Nat
  t : Nat
  s : Nat
  g : Nat
def Ab.has (B : Ab) (k : Nat) : Prop := k = B.b ∨ k = B.r ∨ k = B.m ∨ k = B.c ∨ k = B.t ∨ k = B.s ∨ k = B.g
/-- a slot, as the map has it -/
def slotV (B : Ab) (s : Ar) (h : Int) : Value := .agg #[.int .i64 (s.st h), .slice (some ⟨B.m, bN h, none⟩) (zN h) (zN h)]
def slotF (B : Ab) (s : Ar) : Int → Option Value := fun h => if s.st h = 0 then none else some (slotV B s h)
def boxA (B : Ab) (s : Ar) : Array Value := #[.slice (some ⟨B.r, 0, none⟩) s.nr s.nr, .slice (some ⟨B.m, 0, none⟩) s.nw s.nw, .slice (some ⟨B.c, 0, none⟩) s.nw s.nw, .slice (some ⟨B.t, 0, none⟩) s.nw s.nw, .map (some B.s), .map (some B.g),
  .int .i64 s.cC, .int .i64 s.cL, .int .i64 s.cR, .int .i64 0, .bool s.fresh, .bool s.bad, .int .i64 s.uses]
structure ArMem (B : Ab) (w : World) (s : Ar) : Prop where
  box : w.heap[B.b]? = some (.cells (boxA B s) 67 (0, 0))
  raw : w.rowIs B.r 3 s.nr fun i => .int .i64 (s.raw i)
  mem : w.rowIs B.m 3 s.nw fun i => .int .i64 (s.mem i)
  was : w.rowIs B.c 4 s.nw fun i => .bool (s.was i)
  tak : w.rowIs B.t 4 s.nw fun i => .bool (s.tak i)
  slm : ∃ n, MapI w B.s (slotF B s) n
  gnm : ∃ f n, MapI w B.g f n ∧ ∀ k, (f k).getD (.int .i64 0) = .int .i64 (s.gen k)
  nd : [B.b, B.r, B.m, B.c, B.t, B.s, B.g].Nodup
  tab : HTab w
  lo : ∀ k, B.has k → k ≠ 0 ∧ k ≠ 1
/-- all blocks that are not the arena's are as they were -/
structure FrA (B : Ab) (w w' : World) : Prop where
  os : w'.os = w.os
  tape : w'.tape = w.tape
  output : w'.output = w.output
  size : w.heap.size ≤ w'.heap.size
  block : ∀ k, k < w.heap.size → ¬ B.has k → w'.heap[k]? = w.heap[k]?
section
variable {B : Ab} {w w' : World} {s : Ar}
theorem FrA.refl (B : Ab) (w : World) : FrA B w w := ⟨rfl, rfl, rfl, Nat.le_refl _, fun _ _ _ => rfl⟩
theorem FrA.trans {a b c : World} (h : FrA B a b) (k : FrA B b c) : FrA B a c :=
  ⟨k.os.trans h.os, k.tape.trans h.tape, k.output.trans h.output, Nat.le_trans h.size k.size, fun i h1 h2 => (k.block i (Nat.lt_of_lt_of_le h1 h.size) h2).trans (h.block i h1 h2)⟩
theorem FrA.of_below {a b : World} (h : Below a.heap.size a b) : FrA B a b := ⟨h.os, h.tape, h.output, h.size, fun k hk _ => h.block k hk⟩
theorem FrA.setCell {a b : World} (h : FrA B a b) {g : Nat} (hg : B.has g) (f : Nat) (v : Value) : FrA B a (b.setCell ⟨g, f, none⟩ v) :=
  ⟨h.os, h.tape, h.output, by simpa using h.size, fun k h1 h2 => (Below.heap_setCell _ _ _ _ (fun e => h2 (by rw [e]; exact hg))).trans (h.block k h1 h2)⟩
theorem FrA.alloc {a b : World} (h : FrA B a b) (o : Obj) : FrA B a (b.alloc o) := h.trans (.of_below ((Below.refl _ _).alloc (Nat.le_refl _) o))
theorem FrA.drew {a b : World} (h : FrA B a b) : FrA B a b.drew := ⟨h.os, h.tape, h.output, h.size, h.block⟩
theorem FrA.drewN {a b : World} (h : FrA B a b) (n : Nat) : FrA B a (b.drewN n) := ⟨h.os, h.tape, h.output, h.size, h.block⟩
/-- a store into a block that was not there -/
theorem FrA.setNew {a b : World} (h : FrA B a b) {g : Nat} (hg : a.heap.size ≤ g) (f : Nat) (v : Value) : FrA B a (b.setCell ⟨g, f, none⟩ v) :=
  ⟨h.os, h.tape, h.output, by simpa using h.size, fun k h1 h2 => (Below.heap_setCell _ _ _ _ (by simp only; omega)).trans (h.block k h1 h2)⟩
theorem FrA.but {a b : World} {g : Nat} (h : But g a b) (hg : B.has g) : FrA B a b := ⟨h.os, h.tape, h.output, by rw [h.size]; exact Nat.le_refl _, fun k _ h2 => h.block k fun e => h2 (by rw [e]; exact hg)⟩
/-- where the arena is the call's own -/
theorem FrA.below {a b : World} (h : FrA B a b) {S : Nat} (hS : S ≤ a.heap.size) (hB : ∀ k, B.has k → S ≤ k) : Below S a b :=
  ⟨h.os, h.tape, h.output, h.size, fun k hk => h.block k (by omega) fun hh => by have := hB k hh; omega⟩
theorem FrA.cell {a b : World} (h : FrA B a b) {g f : Nat} (hg : g < a.heap.size) (hn : ¬ B.has g) : b.cell? ⟨g, f, none⟩ = a.cell? ⟨g, f, none⟩ := World.cell?_of_block (w := a) (h.block g hg hn)
theorem FrA.frozen {a b : World} (h : FrA B a b) {g f : Nat} (hg : g < a.heap.size) (hn : ¬ B.has g) : b.frozen? ⟨g, f, none⟩ = a.frozen? ⟨g, f, none⟩ := World.frozen?_of_block (w := a) (h.block g hg hn)
theorem Ab.ne {B : Ab} (h : [B.b, B.r, B.m, B.c, B.t, B.s, B.g].Nodup) : (B.b ≠ B.r ∧ B.b ≠ B.m ∧ B.b ≠ B.c ∧ B.b ≠ B.t ∧ B.b ≠ B.s ∧ B.b ≠ B.g) ∧ (B.r ≠ B.m ∧ B.r ≠ B.c ∧ B.r ≠ B.t ∧ B.r ≠ B.s ∧ B.r ≠ B.g) ∧ (B.m ≠ B.c ∧ B.m ≠ B.t ∧ B.m ≠ B.s ∧ B.m ≠ B.g) ∧ (B.c ≠ B.t ∧ B.c ≠ B.s ∧ B.c ≠ B.g) ∧ (B.t ≠ B.s ∧ B.t ≠ B.g) ∧ B.s ≠ B.g := by
  simp only [List.nodup_cons, List.mem_cons, List.not_mem_nil, or_false, not_or] at h
  obtain ⟨⟨a1, a2, a3, a4, a5, a6⟩, ⟨b1, b2, b3, b4, b5⟩, ⟨c1, c2, c3, c4⟩, ⟨d1, d2, d3⟩, ⟨e1, e2⟩, f1, -⟩ := h
  exact ⟨⟨a1, a2, a3, a4, a5, a6⟩, ⟨b1, b2, b3, b4, b5⟩, ⟨c1, c2, c3, c4⟩, ⟨d1, d2, d3⟩, ⟨e1, e2⟩, f1⟩
theorem ArMem.lt (h : ArMem B w s) {k : Nat} (hk : B.has k) : k < w.heap.size := by
  rcases hk with rfl | rfl | rfl | rfl | rfl | rfl | rfl
  · exact lt_of_block h.box
  · exact h.raw.lt
  · exact h.mem.lt
  · exact h.was.lt
  · exact h.tak.lt
  · obtain ⟨n, hn⟩ := h.slm; exact hn.lt
  · obtain ⟨f, n, hn, _⟩ := h.gnm; exact hn.lt
theorem ArMem.cell (h : ArMem B w s) (f : Nat) : w.cell? ⟨B.b, f, none⟩ = (boxA B s)[f]? := cell_of_row _ _ _ _ _ _ h.box
theorem ArMem.frozen (h : ArMem B w s) (f : Nat) : w.frozen? ⟨B.b, f, none⟩ = false := frozen_of_row w _ f _ _ h.box
/-- its blocks as they were, and the tables -/
theorem ArMem.same (h : ArMem B w s) (hs : ∀ k, B.has k → w'.heap[k]? = w.heap[k]?) (ht : HTab w') : ArMem B w' s := by
  refine ⟨(hs _ (.inl rfl)).trans h.box, h.raw.of_block (hs _ (.inr (.inl rfl))), h.mem.of_block (hs _ (.inr (.inr (.inl rfl)))), h.was.of_block (hs _ (.inr (.inr (.inr (.inl rfl))))), h.tak.of_block (hs _ (.inr (.inr (.inr (.inr (.inl rfl)))))), ?_, ?_, h.nd, ht, h.lo⟩
  · obtain ⟨n, hn⟩ := h.slm; exact ⟨n, hn.same (hs _ (.inr (.inr (.inr (.inr (.inr (.inl rfl)))))))⟩
  · obtain ⟨f, n, hn, e⟩ := h.gnm; exact ⟨f, n, hn.same (hs _ (.inr (.inr (.inr (.inr (.inr (.inr rfl)))))) ), e⟩
theorem ArMem.below (h : ArMem B w s) (hb : Below w.heap.size w w') : ArMem B w' s := h.same (fun k hk => hb.block k (h.lt hk)) (h.tab.below hb)
theorem ArMem.alloc (h : ArMem B w s) (o : Obj) : ArMem B (w.alloc o) s := h.below ((Below.refl _ _).alloc (Nat.le_refl _) o)
theorem ArMem.drew (h : ArMem B w s) : ArMem B w.drew s := h.below (Below.refl _ _).drew
theorem ArMem.drewN (h : ArMem B w s) (n : Nat) : ArMem B (w.drewN n) s := h.below ⟨rfl, rfl, rfl, Nat.le_refl _, fun _ _ => rfl⟩
theorem htab_set {w : World} (h : HTab w) {g : Nat} (h1 : g ≠ 0) (h2 : g ≠ 1) (f : Nat) (v : Value) : HTab (w.setCell ⟨g, f, none⟩ v) :=
  ⟨fun i hi => by rw [World.cell?_of_block (w := w) (Below.heap_setCell _ _ _ _ (Ne.symm h1))]; exact h.sz i hi, fun i hi => by rw [World.cell?_of_block (w := w) (Below.heap_setCell _ _ _ _ (Ne.symm h2))]; exact h.fd i hi⟩
theorem htab_but {w w' : World} (h : HTab w) {g : Nat} (h1 : g ≠ 0) (h2 : g ≠ 1) (hb : But g w w') : HTab w' :=
  ⟨fun i hi => by rw [World.cell?_of_block (w := w) (hb.block _ (Ne.symm h1))]; exact h.sz i hi, fun i hi => by rw [World.cell?_of_block (w := w) (hb.block _ (Ne.symm h2))]; exact h.fd i hi⟩
/-- is one of the two tables -/
def isTab (k : Nat) : Prop := k = 0 ∨ k = 1
theorem tab_lt {w : World} (h : HTab w) (k : Nat) (hk : isTab k) : k < w.heap.size := by
  have := h.pos
  rcases hk with rfl | rfl <;> omega
theorem htab_keep {w w' : World} (h : HTab w) (hb : ∀ k, isTab k → w'.heap[k]? = w.heap[k]?) : HTab w' :=
  ⟨fun i hi => by rw [World.cell?_of_block (w := w) (hb _ (.inl rfl))]; exact h.sz i hi, fun i hi => by rw [World.cell?_of_block (w := w) (hb _ (.inr rfl))]; exact h.fd i hi⟩
/-- another block turned -/
theorem ArMem.setOther (h : ArMem B w s) {g : Nat} (hg : ¬ B.has g) (h1 : g ≠ 0) (h2 : g ≠ 1) (f : Nat) (v : Value) : ArMem B (w.setCell ⟨g, f, none⟩ v) s :=
  h.same (fun k hk => Below.heap_setCell _ _ _ _ (fun e => hg (by have e2 : k = g := e; rw [← e2]; exact hk))) (htab_set h.tab h1 h2 f v)
/-- its box turned -/
theorem ArMem.setBox (h : ArMem B w s) (f : Nat) (v : Value) (s' : Ar) (hc : (boxA B s).setIfInBounds f v = boxA B s') (e1 : s'.nr = s.nr) (e2 : s'.nw = s.nw) (e3 : s'.raw = s.raw) (e4 : s'.mem = s.mem) (e5 : s'.was = s.was) (e6 : s'.tak = s.tak) (e7 : s'.st = s.st) (e8 : s'.gen = s.gen) : ArMem B (w.setCell ⟨B.b, f, none⟩ v) s' := by
  obtain ⟨⟨a1, a2, a3, a4, a5, a6⟩, -⟩ := Ab.ne h.nd
  have hs : ∀ k, k ≠ B.b → (w.setCell ⟨B.b, f, none⟩ v).heap[k]? = w.heap[k]? := fun k hk => Below.heap_setCell _ _ _ _ hk
  have hl := h.lo B.b (.inl rfl)
  refine ⟨?_, ?_, ?_, ?_, ?_, ?_, ?_, h.nd, htab_set h.tab hl.1 hl.2 f v, h.lo⟩
  · rw [heap_setCell_same _ _ _ _ _ _ h.box, hc]
  · rw [e1, e3]; exact h.raw.of_block (hs _ (Ne.symm a1))
  · rw [e2, e4]; exact h.mem.of_block (hs _ (Ne.symm a2))
  · rw [e2, e5]; exact h.was.of_block (hs _ (Ne.symm a3))
  · rw [e2, e6]; exact h.tak.of_block (hs _ (Ne.symm a4))
  · obtain ⟨n, hn⟩ := h.slm
    refine ⟨n, ?_⟩
    rw [show slotF B s' = slotF B s by unfold slotF slotV; rw [e7]]
    exact hn.same (hs _ (Ne.symm a5))
  · obtain ⟨g, n, hn, e⟩ := h.gnm
    rw [e8]
    exact ⟨g, n, hn.same (hs _ (Ne.symm a6)), e⟩
theorem ArMem.setUse (h : ArMem B w s) : ArMem B (w.setCell ⟨B.b, 12, none⟩ (.int .i64 (wrap64 (s.uses + 1)))) (useA s) := h.setBox 12 _ _ rfl rfl rfl rfl rfl rfl rfl rfl rfl
theorem ArMem.setBad (h : ArMem B w s) : ArMem B ((w.setCell ⟨B.b, 12, none⟩ (.int .i64 (wrap64 (s.uses + 1)))).setCell ⟨B.b, 11, none⟩ (.bool true)) (badA s) := h.setUse.setBox 11 _ _ rfl rfl rfl rfl rfl rfl rfl rfl rfl
theorem ArMem.setC (h : ArMem B w s) (x : Int) : ArMem B (w.setCell ⟨B.b, 6, none⟩ (.int .i64 x)) { s with cC := x } := h.setBox 6 _ _ rfl rfl rfl rfl rfl rfl rfl rfl rfl
theorem ArMem.setL (h : ArMem B w s) (x : Int) : ArMem B (w.setCell ⟨B.b, 7, none⟩ (.int .i64 x)) { s with cL := x } := h.setBox 7 _ _ rfl rfl rfl rfl rfl rfl rfl rfl rfl
theorem ArMem.setR (h : ArMem B w s) (x : Int) : ArMem B (w.setCell ⟨B.b, 8, none⟩ (.int .i64 x)) { s with cR := x } := h.setBox 8 _ _ rfl rfl rfl rfl rfl rfl rfl rfl rfl
theorem up_val (f : Nat → Int) (k : Nat) (x : Int) (j : Nat) : (if j = k then Value.int .i64 x else .int .i64 (f j)) = .int .i64 (upN f k x j) := by
  unfold upN
  split <;> rfl
/-- a raw word turned -/
theorem ArMem.setRaw (h : ArMem B w s) (k : Nat) (x : Int) : ArMem B (w.setCell ⟨B.r, k, none⟩ (.int .i64 x)) { s with raw := upN s.raw k x } := by
  obtain ⟨⟨a1, a2, a3, a4, a5, a6⟩, ⟨b1, b2, b3, b4, b5⟩, -⟩ := Ab.ne h.nd
  have hs : ∀ j, j ≠ B.r → (w.setCell ⟨B.r, k, none⟩ (.int .i64 x)).heap[j]? = w.heap[j]? := fun j hj => Below.heap_setCell _ _ _ _ hj
  have hl := h.lo B.r (.inr (.inl rfl))
  refine ⟨(hs _ a1).trans h.box, (h.raw.set k _).congr fun j _ => ?_, h.mem.of_block (hs _ (Ne.symm b1)), h.was.of_block (hs _ (Ne.symm b2)), h.tak.of_block (hs _ (Ne.symm b3)), ?_, ?_, h.nd, htab_set h.tab hl.1 hl.2 _ _, h.lo⟩
  · exact up_val _ _ _ _
  · obtain ⟨n, hn⟩ := h.slm
    exact ⟨n, hn.same (hs _ (Ne.symm b4))⟩
  · obtain ⟨g, n, hn, e⟩ := h.gnm
    exact ⟨g, n, hn.same (hs _ (Ne.symm b5)), e⟩
/-- rows of marks turned -/
theorem ArMem.setWas (h : ArMem B w s) (k : Nat) (x : Bool) : ArMem B (w.setCell ⟨B.c, k, none⟩ (.bool x)) { s with was := fun j => if j = k then x else s.was j } := by
  obtain ⟨⟨a1, a2, a3, a4, a5, a6⟩, ⟨b1, b2, b3, b4, b5⟩, ⟨c1, c2, c3, c4⟩, ⟨d1, d2, d3⟩, -⟩ := Ab.ne h.nd
  have hs : ∀ j, j ≠ B.c → (w.setCell ⟨B.c, k, none⟩ (.bool x)).heap[j]? = w.heap[j]? := fun j hj => Below.heap_setCell _ _ _ _ hj
  have hl := h.lo B.c (.inr (.inr (.inr (.inl rfl))))
  refine ⟨(hs _ a3).trans h.box, h.raw.of_block (hs _ b2), h.mem.of_block (hs _ c1), (h.was.set k _).congr fun j _ => ?_, h.tak.of_block (hs _ (Ne.symm d1)), ?_, ?_, h.nd, htab_set h.tab hl.1 hl.2 _ _, h.lo⟩
  · show _ = Value.bool (if j = k then x else s.was j)
    split <;> rfl
  · obtain ⟨n, hn⟩ := h.slm
    exact ⟨n, hn.same (hs _ (Ne.symm d2))⟩
  · obtain ⟨g, n, hn, e⟩ := h.gnm
    exact ⟨g, n, hn.same (hs _ (Ne.symm d3)), e⟩
theorem ArMem.setTak (h : ArMem B w s) (k : Nat) (x : Bool) : ArMem B (w.setCell ⟨B.t, k, none⟩ (.bool x)) { s with tak := fun j => if j = k then x else s.tak j } := by
  obtain ⟨⟨a1, a2, a3, a4, a5, a6⟩, ⟨b1, b2, b3, b4, b5⟩, ⟨c1, c2, c3, c4⟩, ⟨d1, d2, d3⟩, ⟨e1, e2⟩, -⟩ := Ab.ne h.nd
  have hs : ∀ j, j ≠ B.t → (w.setCell ⟨B.t, k, none⟩ (.bool x)).heap[j]? = w.heap[j]? := fun j hj => Below.heap_setCell _ _ _ _ hj
  have hl := h.lo B.t (.inr (.inr (.inr (.inr (.inl rfl)))))
  refine ⟨(hs _ a4).trans h.box, h.raw.of_block (hs _ b3), h.mem.of_block (hs _ c2), h.was.of_block (hs _ d1), (h.tak.set k _).congr fun j _ => ?_, ?_, ?_, h.nd, htab_set h.tab hl.1 hl.2 _ _, h.lo⟩
  · show _ = Value.bool (if j = k then x else s.tak j)
    split <;> rfl
  · obtain ⟨n, hn⟩ := h.slm
    exact ⟨n, hn.same (hs _ (Ne.symm e1))⟩
  · obtain ⟨g, n, hn, e⟩ := h.gnm
    exact ⟨g, n, hn.same (hs _ (Ne.symm e2)), e⟩
/-- the map of slots turned -/
theorem ArMem.setSlot (h : ArMem B w s) (st : Int → Int) {n : Nat} (hm : MapI w' B.s (slotF B { s with st := st }) n) (hb : But B.s w w') : ArMem B w' { s with st := st } := by
  obtain ⟨⟨a1, a2, a3, a4, a5, a6⟩, ⟨b1, b2, b3, b4, b5⟩, ⟨c1, c2, c3, c4⟩, ⟨d1, d2, d3⟩, ⟨e1, e2⟩, f1⟩ := Ab.ne h.nd
  have hl := h.lo B.s (.inr (.inr (.inr (.inr (.inr (.inl rfl))))))
  refine ⟨(hb.block _ a5).trans h.box, h.raw.of_block (hb.block _ b4), h.mem.of_block (hb.block _ c3), h.was.of_block (hb.block _ d2), h.tak.of_block (hb.block _ e1), ⟨n, hm⟩, ?_, h.nd, htab_but h.tab hl.1 hl.2 hb, h.lo⟩
  obtain ⟨g, n, hn, e⟩ := h.gnm
  exact ⟨g, n, hn.same (hb.block _ (Ne.symm f1)), e⟩
/-- the map of gens turned -/
theorem ArMem.setGen (h : ArMem B w s) (gen : Int → Int) {f : Int → Option Value} {n : Nat} (hm : MapI w' B.g f n) (he : ∀ k, (f k).getD (.int .i64 0) = .int .i64 (gen k)) (hb : But B.g w w') : ArMem B w' { s with gen := gen } := by
  obtain ⟨⟨a1, a2, a3, a4, a5, a6⟩, ⟨b1, b2, b3, b4, b5⟩, ⟨c1, c2, c3, c4⟩, ⟨d1, d2, d3⟩, ⟨e1, e2⟩, f1⟩ := Ab.ne h.nd
  have hl := h.lo B.g (.inr (.inr (.inr (.inr (.inr (.inr rfl))))))
  refine ⟨(hb.block _ a6).trans h.box, h.raw.of_block (hb.block _ b5), h.mem.of_block (hb.block _ c4), h.was.of_block (hb.block _ d3), h.tak.of_block (hb.block _ e2), ?_, ⟨f, n, hm, he⟩, h.nd, htab_but h.tab hl.1 hl.2 hb, h.lo⟩
  obtain ⟨m, hn⟩ := h.slm
  exact ⟨m, hn.same (hb.block _ f1)⟩
/-- a place turned -/
theorem ArMem.setMem (h : ArMem B w s) (k : Nat) (x : Int) : ArMem B (w.setCell ⟨B.m, k, none⟩ (.int .i64 x)) { s with mem := upN s.mem k x } := by
  obtain ⟨⟨a1, a2, a3, a4, a5, a6⟩, ⟨b1, b2, b3, b4, b5⟩, ⟨c1, c2, c3, c4⟩, -⟩ := Ab.ne h.nd
  have hs : ∀ j, j ≠ B.m → (w.setCell ⟨B.m, k, none⟩ (.int .i64 x)).heap[j]? = w.heap[j]? := fun j hj => Below.heap_setCell _ _ _ _ hj
  have hl := h.lo B.m (.inr (.inr (.inl rfl)))
  refine ⟨(hs _ a2).trans h.box, h.raw.of_block (hs _ b1), (h.mem.set k _).congr fun j _ => ?_, h.was.of_block (hs _ (Ne.symm c1)), h.tak.of_block (hs _ (Ne.symm c2)), ?_, ?_, h.nd, htab_set h.tab hl.1 hl.2 _ _, h.lo⟩
  · exact up_val _ _ _ _
  · obtain ⟨n, hn⟩ := h.slm
    exact ⟨n, hn.same (hs _ (Ne.symm c3))⟩
  · obtain ⟨g, n, hn, e⟩ := h.gnm
    exact ⟨g, n, hn.same (hs _ (Ne.symm c4)), e⟩
end
structure ArAt (B : Ab) (w : World) (s : Ar) : Prop extends ArMem B w s where
  ok : Ok9 s
section
variable {B : Ab} {w w' : World} {s : Ar}
theorem ArAt.below (h : ArAt B w s) (hb : Below w.heap.size w w') : ArAt B w' s := ⟨h.toArMem.below hb, h.ok⟩
theorem ArAt.alloc (h : ArAt B w s) (o : Obj) : ArAt B (w.alloc o) s := ⟨h.toArMem.alloc o, h.ok⟩
theorem ArAt.drew (h : ArAt B w s) : ArAt B w.drew s := ⟨h.toArMem.drew, h.ok⟩
theorem ArAt.drewN (h : ArAt B w s) (n : Nat) : ArAt B (w.drewN n) s := ⟨h.toArMem.drewN n, h.ok⟩
theorem ArAt.setOther (h : ArAt B w s) {g : Nat} (hg : ¬ B.has g) (h1 : g ≠ 0) (h2 : g ≠ 1) (f : Nat) (v : Value) : ArAt B (w.setCell ⟨g, f, none⟩ v) s := ⟨h.toArMem.setOther hg h1 h2 f v, h.ok⟩
theorem ArAt.setUse (h : ArAt B w s) : ArAt B (w.setCell ⟨B.b, 12, none⟩ (.int .i64 (wrap64 (s.uses + 1)))) (useA s) := ⟨h.toArMem.setUse, h.ok.same rfl rfl rfl rfl rfl rfl⟩
theorem ArAt.setBad (h : ArAt B w s) : ArAt B ((w.setCell ⟨B.b, 12, none⟩ (.int .i64 (wrap64 (s.uses + 1)))).setCell ⟨B.b, 11, none⟩ (.bool true)) (badA s) := ⟨h.toArMem.setBad, h.ok.same rfl rfl rfl rfl rfl rfl⟩
theorem ArAt.setRaw (h : ArAt B w s) (k : Nat) (x : Int) : ArAt B (w.setCell ⟨B.r, k, none⟩ (.int .i64 x)) { s with raw := upN s.raw k x } := ⟨h.toArMem.setRaw k x, h.ok.same rfl rfl rfl rfl rfl rfl⟩
theorem ArAt.setMem (h : ArAt B w s) (k : Nat) (x : Int) : ArAt B (w.setCell ⟨B.m, k, none⟩ (.int .i64 x)) { s with mem := upN s.mem k x } := ⟨h.toArMem.setMem k x, h.ok.same rfl rfl rfl rfl rfl rfl⟩
/-- another frame's arena -/
theorem ArAt.frame {B' : Ab} (h : ArAt B w s) (hf : FrA B' w w') (hd : ∀ k, B.has k → ¬ B'.has k) (h1 : ¬ B'.has 0) (h2 : ¬ B'.has 1) : ArAt B w' s := by
  have ht := h.tab.pos
  exact ⟨h.toArMem.same (fun k hk => hf.block k (h.lt hk) (hd k hk)) ⟨fun i hi => by rw [World.cell?_of_block (w := w) (hf.block _ ht.1 h1)]; exact h.tab.sz i hi, fun i hi => by rw [World.cell?_of_block (w := w) (hf.block _ ht.2 h2)]; exact h.tab.fd i hi⟩, h.ok⟩
end
end Go.Proofs.YtopnkfbcphbbiaaDoor.A9
namespace Go.Proofs.YtopnkfbcphbbiaaDoor.A9
open Go.RowKit
open H8 (okP packV packF opA opB opC isH sizeF szT HTab)

theorem zeroSlot (w : World) : (zeroValue 77).run Tryd.prog w = .ok (.agg #[.int .i64 0, .slice none 0 0]) w := by kernel_rfl
theorem mapSlot : Tryd.prog.underlying 64 = some (.map 3 77) := by kernel_rfl
theorem mapGen : Tryd.prog.underlying 65 = some (.map 3 3) := by kernel_rfl
theorem undInt : Tryd.prog.underlying 3 = some (.int .i64) := by kernel_rfl
theorem zeroI (w : World) : (zeroValue 3).run Tryd.prog w = .ok (.int .i64 0) w := by kernel_rfl
section
variable {B : Ab} {w : World} {s : Ar}
abbrev wUse (B : Ab) (s : Ar) (w : World) : World := w.setCell ⟨B.b, 12, none⟩ (.int .i64 (wrap64 (s.uses + 1)))
abbrev wBad (B : Ab) (s : Ar) (w : World) : World := (w.setCell ⟨B.b, 12, none⟩ (.int .i64 (wrap64 (s.uses + 1)))).setCell ⟨B.b, 11, none⟩ (.bool true)
theorem use_in (h : ArMem B w s) (g k n c : Nat) (i : Int) (h0 : 0 ≤ i) (h1 : i < n) : Calls Tryd.prog 33 #[.pointer (some ⟨B.b, 0, none⟩), .slice (some ⟨g, k, none⟩) n c, .int .i64 i] w fun e w' => e = .returned (.pointer (some ⟨g, k + i.toNat, none⟩)) ∧ w' = wUse B s w := by
  have c12 := h.cell 12
  have f12 := h.frozen 12
  simp [boxA] at c12
  have d0 : decide (i < 0) = false := by simpa using h0
  have d1 : decide ((n : Int) ≤ i) = false := by simpa using h1
  clear h
  go_enter Tryd.func33, Tryd.ntmps33
  go_wp2_with fail
  go_ret
  exact ⟨rfl, rfl⟩
theorem use_out (h : ArMem B w s) (a : Option Addr) (n c : Nat) (i : Int) (h0 : ¬ (0 ≤ i ∧ i < n)) : Calls Tryd.prog 33 #[.pointer (some ⟨B.b, 0, none⟩), .slice a n c, .int .i64 i] w fun e w' => e = .returned (.pointer none) ∧ w' = wBad B s w := by
  have c12 := h.cell 12
  have f12 := h.frozen 12
  have c11 := h.cell 11
  have f11 := h.frozen 11
  simp [boxA] at c12 c11
  by_cases hi : i < 0
  · have d0 : decide (i < 0) = true := by simpa using hi
    clear h h0
    go_enter Tryd.func33, Tryd.ntmps33
    go_wp2_with fail
    go_ret
    exact ⟨rfl, rfl⟩
  · have d0 : decide (i < 0) = false := by simpa using hi
    have d1 : decide ((n : Int) ≤ i) = true := by simp; omega
    clear h h0
    go_enter Tryd.func33, Tryd.ntmps33
    go_wp2_with fail
    go_ret
    exact ⟨rfl, rfl⟩
theorem load_at (a : Addr) (x : Int) (hc : w.cell? a = some (.int .i64 x)) : Calls Tryd.prog 51 #[.pointer (some a)] w fun e w' => e = .returned (.int .i64 x) ∧ w' = w := by
  go_enter Tryd.func51, Tryd.ntmps51
  go_wp2_with fail
  go_ret
  exact ⟨rfl, rfl⟩
theorem load_nil : Calls Tryd.prog 51 #[.pointer none] w fun e w' => e = .returned (.int .i64 0) ∧ w' = w := by
  go_enter Tryd.func51, Tryd.ntmps51
  go_wp2_with fail
  go_ret
  exact ⟨rfl, rfl⟩
theorem store_at (a : Addr) (x v : Int) (hc : w.cell? a = some (.int .i64 x)) (hf : w.frozen? a = false) : Calls Tryd.prog 32 #[.pointer (some a), .int .i64 v] w fun e w' => e = .returned (.tuple #[]) ∧ w' = w.setCell a (.int .i64 v) := by
  go_enter Tryd.func32, Tryd.ntmps32
  go_wp2_with fail
  exact bodyPost_end (v := .tuple #[]) (by simp [results, Tryd.results32, go_sem]) rfl ⟨rfl, rfl⟩
theorem store_nil (v : Int) : Calls Tryd.prog 32 #[.pointer none, .int .i64 v] w fun e w' => e = .returned (.tuple #[]) ∧ w' = w := by
  go_enter Tryd.func32, Tryd.ntmps32
  go_wp2_with fail
  exact bodyPost_end (v := .tuple #[]) (by simp [results, Tryd.results32, go_sem]) rfl ⟨rfl, rfl⟩
theorem swap_yes (a : Addr) (x v : Int) (hc : w.cell? a = some (.int .i64 x)) (hf : w.frozen? a = false) : Calls Tryd.prog 70 #[.pointer (some a), .int .i64 x, .int .i64 v] w fun e w' => e = .returned (.bool true) ∧ w' = w.setCell a (.int .i64 v) := by
  go_enter Tryd.func70, Tryd.ntmps70
  go_wp2_with fail
  go_ret
  exact ⟨rfl, rfl⟩
theorem swap_no (a : Addr) (x y v : Int) (hc : w.cell? a = some (.int .i64 x)) (hn : x ≠ y) : Calls Tryd.prog 70 #[.pointer (some a), .int .i64 y, .int .i64 v] w fun e w' => e = .returned (.bool false) ∧ w' = w := by
  have hb : (x != y) = true := by simpa using hn
  go_enter Tryd.func70, Tryd.ntmps70
  go_wp2_with fail
  go_ret
  exact ⟨rfl, rfl⟩
theorem swap_nil (y v : Int) : Calls Tryd.prog 70 #[.pointer none, .int .i64 y, .int .i64 v] w fun e w' => e = .returned (.bool false) ∧ w' = w := by
  go_enter Tryd.func70, Tryd.ntmps70
  go_wp2_with fail
  go_ret
  exact ⟨rfl, rfl⟩
theorem add_at (a : Addr) (x y : Int) (hc : w.cell? a = some (.int .i64 x)) (hf : w.frozen? a = false) : Calls Tryd.prog 71 #[.pointer (some a), .int .i64 y] w fun e w' => e = .returned (.int .i64 x) ∧ w' = w.setCell a (.int .i64 (wrap64 (x + y))) := by
  go_enter Tryd.func71, Tryd.ntmps71
  go_wp2_with fail
  refine (load_at _ _ hc).mono ?_
  rintro e w1 ⟨rfl, rfl⟩
  go_wp2_with fail
  refine (store_at _ _ _ hc hf).mono ?_
  rintro e w1 ⟨rfl, rfl⟩
  go_wp2_with fail
  go_ret
  exact ⟨rfl, rfl⟩
theorem add_nil (y : Int) : Calls Tryd.prog 71 #[.pointer none, .int .i64 y] w fun e w' => e = .returned (.int .i64 0) ∧ w' = w := by
  go_enter Tryd.func71, Tryd.ntmps71
  go_wp2_with fail
  refine load_nil.mono ?_
  rintro e w1 ⟨rfl, rfl⟩
  go_wp2_with fail
  refine (store_nil _).mono ?_
  rintro e w1 ⟨rfl, rfl⟩
  go_wp2_with fail
  go_ret
  exact ⟨rfl, rfl⟩
end
end Go.Proofs.YtopnkfbcphbbiaaDoor.A9
namespace Go.Proofs.YtopnkfbcphbbiaaDoor.A9
open Go.RowKit
open H8 (okP packV packF opA opB opC isH sizeF szT HTab)

theorem field1 (x : Int) (a : Option Addr) (n c : Nat) (wx : World) : (Instr.field 77 (.agg #[.int .i64 x, .slice a n c]) 1).run Tryd.prog wx = .ok (.slice a n c) wx := by kernel_rfl
theorem field0 (x : Int) (a : Option Addr) (n c : Nat) (wx : World) : (Instr.field 77 (.agg #[.int .i64 x, .slice a n c]) 0).run Tryd.prog wx = .ok (.int .i64 x) wx := by kernel_rfl
section
variable {B : Ab} {w : World} {s : Ar}
/-- where a slot that is not dead is in the map -/
theorem ArMem.slot (h : ArMem B w s) (k : Int) (hk : s.st k ≠ 0) : (Instr.lookup 64 (.map (some B.s)) (.int .i64 k) false).run Tryd.prog w = .ok (slotV B s k) w := by
  obtain ⟨n, hn⟩ := h.slm
  rw [hn.look mapSlot undInt (zeroSlot w) k]
  unfold slotF
  rw [if_neg hk]
  rfl
theorem ArMem.noSlot (h : ArMem B w s) (k : Int) (hk : s.st k = 0) : (Instr.lookup 64 (.map (some B.s)) (.int .i64 k) false).run Tryd.prog w = .ok (.agg #[.int .i64 0, .slice none 0 0]) w := by
  obtain ⟨n, hn⟩ := h.slm
  rw [hn.look mapSlot undInt (zeroSlot w) k]
  unfold slotF
  rw [if_pos hk]
  rfl
theorem ArMem.genAt (h : ArMem B w s) (k : Int) : (Instr.lookup 65 (.map (some B.g)) (.int .i64 k) false).run Tryd.prog w = .ok (.int .i64 (s.gen k)) w := by
  obtain ⟨f, n, hn, e⟩ := h.gnm
  rw [hn.look mapGen undInt (zeroI w) k, e k]
theorem useOf_in (h : ArMem B w s) (k off : Int) (hi : inW s k off) : Calls Tryd.prog 50 #[.pointer (some ⟨B.b, 0, none⟩), .int .i64 k, .int .i64 off] w fun e w' => e = .returned (.pointer (some ⟨B.m, atW k off, none⟩)) ∧ w' = wUse B s w := by
  obtain ⟨h1, h2, h3⟩ := hi
  have hl := h.slot k h1
  have c4 := h.cell 4
  simp [boxA] at c4
  have hu := use_in h B.m (bN k) (zN k) (zN k) off h2 h3
  have hx := field1 (s.st k) (some ⟨B.m, bN k, none⟩) (zN k) (zN k)
  unfold slotV at hl
  clear h h1 h2 h3
  go_enter Tryd.func50, Tryd.ntmps50
  go_wp2_with fail
  refine hu.mono ?_
  rintro e w1 ⟨rfl, rfl⟩
  go_wp2_with fail
  go_ret
  exact ⟨rfl, rfl⟩
theorem useOf_out (h : ArMem B w s) (k off : Int) (hi : ¬ inW s k off) : Calls Tryd.prog 50 #[.pointer (some ⟨B.b, 0, none⟩), .int .i64 k, .int .i64 off] w fun e w' => e = .returned (.pointer none) ∧ w' = wBad B s w := by
  have c4 := h.cell 4
  simp [boxA] at c4
  by_cases h1 : s.st k = 0
  · have hl := h.noSlot k h1
    have hu := use_out h none 0 0 off (by omega)
    have hx := field1 0 none 0 0
    clear h h1 hi
    go_enter Tryd.func50, Tryd.ntmps50
    go_wp2_with fail
    refine hu.mono ?_
    rintro e w1 ⟨rfl, rfl⟩
    go_wp2_with fail
    go_ret
    exact ⟨rfl, rfl⟩
  · have hl := h.slot k h1
    have hx := field1 (s.st k) (some ⟨B.m, bN k, none⟩) (zN k) (zN k)
    have hu := use_out h (some ⟨B.m, bN k, none⟩) (zN k) (zN k) off (fun hh => hi ⟨h1, hh.1, hh.2⟩)
    unfold slotV at hl
    clear h h1 hi
    go_enter Tryd.func50, Tryd.ntmps50
    go_wp2_with fail
    refine hu.mono ?_
    rintro e w1 ⟨rfl, rfl⟩
    go_wp2_with fail
    go_ret
    exact ⟨rfl, rfl⟩
theorem inW_lt (h : ArAt B w s) {k off : Int} (hi : inW s k off) : atW k off < s.nw := by
  obtain ⟨h1, h2, h3⟩ := hi
  have := (h.ok.fit k h1).2.1
  unfold atW
  omega
theorem ArAt.memCell (h : ArAt B w s) {k off : Int} (hi : inW s k off) : w.cell? ⟨B.m, atW k off, none⟩ = some (.int .i64 (s.mem (atW k off))) := h.mem.cell (inW_lt h hi)
theorem ArMem.rawCell (h : ArMem B w s) {i : Int} (hi : inR s i) : w.cell? ⟨B.r, i.toNat, none⟩ = some (.int .i64 (s.raw i.toNat)) := h.raw.cell (by have := hi.1; have := hi.2; omega)
theorem frUse : FrA B w (wUse B s w) := (FrA.refl B w).setCell (.inl rfl) _ _
theorem frBad : FrA B w (wBad B s w) := frUse.setCell (.inl rfl) _ _
/-- what a call leaves: an answer, the arena -/
def Left9 (B : Ab) (w : World) (v : Value) (s : Ar) (e : Ending) (w' : World) : Prop := e = .returned v ∧ ArAt B w' s ∧ FrA B w w'
abbrev ptrA (B : Ab) : Value := .pointer (some ⟨B.b, 0, none⟩)
theorem Load_any (h : ArAt B w s) (k off : Int) : Calls Tryd.prog 30 #[ptrA B, .int .i64 k, .int .i64 off] w (Left9 B w (.int .i64 (loadA s k off).2) (loadA s k off).1) := by
  unfold loadA
  by_cases hi : inW s k off
  · rw [if_pos hi]
    have hu := useOf_in h.toArMem k off hi
    have h2 := h.setUse
    have hc := h2.memCell (k := k) (off := off) hi
    have HF : Hid (ArAt B (wUse B s w) (useA s) ∧ FrA B w (wUse B s w)) := ⟨h2, frUse⟩
    clear h h2 hi
    show Calls _ _ _ _ (Left9 B w (.int .i64 (s.mem (atW k off))) (useA s))
    go_enter Tryd.func30, Tryd.ntmps30
    go_wp2_with fail
    refine hu.mono ?_
    rintro e w1 ⟨rfl, rfl⟩
    go_wp2_with fail
    refine (load_at _ _ hc).mono ?_
    rintro e w1 ⟨rfl, rfl⟩
    go_wp2_with fail
    go_ret
    exact ⟨rfl, HF.out⟩
  · rw [if_neg hi]
    have hu := useOf_out h.toArMem k off hi
    have HF : Hid (ArAt B (wBad B s w) (badA s) ∧ FrA B w (wBad B s w)) := ⟨h.setBad, frBad⟩
    clear h hi
    show Calls _ _ _ _ (Left9 B w (.int .i64 0) (badA s))
    go_enter Tryd.func30, Tryd.ntmps30
    go_wp2_with fail
    refine hu.mono ?_
    rintro e w1 ⟨rfl, rfl⟩
    go_wp2_with fail
    refine load_nil.mono ?_
    rintro e w1 ⟨rfl, rfl⟩
    go_wp2_with fail
    go_ret
    exact ⟨rfl, HF.out⟩
end
end Go.Proofs.YtopnkfbcphbbiaaDoor.A9
