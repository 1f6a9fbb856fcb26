/-
  Helpers: C2ByNum2, C2Sizes.
-/
import Derived.Test.YtpmapdialjdcbaaDoorBun77cf5f7b61a2
import Derived.Deep.RegionLaw
namespace Go.Proofs.YtpmapdialjdcbaaDoor.C2
open Go.RowKit

theorem own_ne {w : World} {b1 b2 s1 s2 n m : Nat} {e f : TypeId} {v u : Value} {xs ys : List Value} (h1 : w.ownsRow b1 e s1 v n xs) (h2 : w.ownsRow b2 f s2 u m ys) (hne : e ≠ f) (g : Nat) (hv : v.ownBlock = some g) : u.ownBlock ≠ some g := by
  intro hu
  rcases h1.2 with ⟨rfl, _⟩ | ⟨g1, c1, cur1, rfl, _, a1, _⟩
  · simp [Value.ownBlock] at hv
  · rcases h2.2 with ⟨rfl, _⟩ | ⟨g2, c2, cur2, rfl, _, a2, _⟩
    · simp [Value.ownBlock] at hu
    · simp only [Value.ownBlock, Option.some.injEq] at hv hu
      subst hv
      subst hu
      rw [a1] at a2
      simp at a2
      exact hne a2.2
/-- rows that have no block in common -/
def Apart (vals : List Value) : Prop := ∀ i j (hi : i < vals.length) (hj : j < vals.length), i ≠ j → ∀ g, vals[i].ownBlock = some g → vals[j].ownBlock ≠ some g
theorem apart_nil : Apart [] := by intro i j hi; simp at hi
theorem apart_snoc {vals : List Value} {v : Value} (h : Apart vals) {n : Nat} (h1 : ∀ j (hj : j < vals.length) g, vals[j].ownBlock = some g → g < n) (h2 : ∀ g, v.ownBlock = some g → n ≤ g) : Apart (vals ++ [v]) := by
  intro i j hi hj hne g hg hg'
  simp only [List.length_append, List.length_cons, List.length_nil] at hi hj
  by_cases hi1 : i < vals.length
  · rw [List.getElem_append_left hi1] at hg
    by_cases hj1 : j < vals.length
    · rw [List.getElem_append_left hj1] at hg'
      exact h i j hi1 hj1 hne g hg hg'
    · rw [List.getElem_append_right (by omega)] at hg'
      simp at hg'
      have := h1 i hi1 g hg
      have := h2 g hg'
      omega
  · rw [List.getElem_append_right (by omega)] at hg
    simp at hg
    have hj1 : j < vals.length := by omega
    rw [List.getElem_append_left hj1] at hg'
    have := h1 j hj1 g hg'
    have := h2 g hg
    omega
/-- what lies in memory while a program is made by numbers -/
structure PS (w wr : World) (P : Nat) (fv : Value) (futs depth fuel : Int) (vals : List Value) (fs : List (List In)) : Prop where
  far : w.heap.size + 1 < P
  res : wr.heap[w.heap.size]? = some (.cells #[.slice none 0 0, .int .i64 0, .int .i64 0, .int .i64 0] 24 (0, 0))
  ln : LN w.heap.size wr (w.heap.size + 1)
  box : wr.heap[P]? = some (.cells #[fv, .int .i64 futs, .int .i64 depth, .int .i64 fuel] 24 (0, 0))
  row : wr.ownsRow (P + 1) 55 1 fv vals.length vals
  len : vals.length = fs.length
  fns : ∀ j (h : j < vals.length) (h2 : j < fs.length), wr.ownsRow (P + 1) 54 4 vals[j] fs[j].length (cellsI fs[j])
  below : Below w.heap.size w wr
  apart : Apart vals
theorem PS.grown {w ws wr : World} {P : Nat} {fv : Value} {futs depth fuel : Int} {vals : List Value} {fs : List (List In)} (h : PS w ws P fv futs depth fuel vals fs) (hg : ws.grownBy wr (some (w.heap.size + 1))) (hl : LN w.heap.size wr (w.heap.size + 1)) : PS w wr P fv futs depth fuel vals fs := by
  have hf := h.far
  have hb : ∀ b, b < ws.heap.size → b ≠ w.heap.size + 1 → wr.heap[b]? = ws.heap[b]? := fun b h1 h2 => hg.block b h1 (by simpa using h2)
  refine ⟨h.far, (hb _ (lt_of_block h.res) (by omega)).trans h.res, hl, (hb _ (lt_of_block h.box) (by omega)).trans h.box, owns_same h.row fun g hg => ?_, h.len, fun j h1 h2 => owns_same (h.fns j h1 h2) fun g hg => ?_, h.below.trans ⟨hg.os, hg.tape, hg.output, hg.size, fun k hk => hb k (by have := h.below.size; omega) (by omega)⟩, h.apart⟩
  · have := h.row.lt g hg
    exact hb g this.2 (by omega)
  · have := (h.fns j h1 h2).lt g hg
    exact hb g this.2 (by omega)
theorem PS.slF {w wr : World} {P : Nat} {fv : Value} {futs depth fuel : Int} {vals : List Value} {fs : List (List In)} (h : PS w wr P fv futs depth fuel vals fs) {w' : World} (hb : ∀ b, P < b → b < wr.heap.size → w'.heap[b]? = wr.heap[b]?) : SlF w' fv fs := by
  have hr : w'.ownsRow (P + 1) 55 1 fv vals.length vals := owns_same h.row fun g hg => by
    have := h.row.lt g hg
    exact hb g (by omega) this.2
  rcases hr.2 with ⟨rfl, h0⟩ | ⟨g, cap, cur, rfl, h1, h2, h3, h4, h5, h6⟩
  · obtain rfl : fs = [] := List.eq_nil_of_length_eq_zero (by rw [← h.len]; exact h0)
    exact ⟨none, 0, rfl, fun k hk => by simp at hk⟩
  · refine ⟨some ⟨g, 0, none⟩, cap, by rw [h.len], fun k hk => ?_⟩
    have hk' : k < vals.length := by rw [h.len]; exact hk
    refine ⟨g, 0, vals[k], rfl, ?_, ?_⟩
    · rw [Nat.zero_add, hr.cellAt k (by omega), List.getElem?_eq_getElem hk']
    · refine own_slI (base := P + 1) (owns_same (h.fns k hk' hk) fun b hb' => ?_)
      have := (h.fns k hk' hk).lt b hb'
      exact hb b (by omega) this.2
/-- a function more -/
theorem PS.push {w ws w2 w3 : World} {P : Nat} {fv fv' v : Value} {futs depth fuel : Int} {vals : List Value} {fs : List (List In)} {xs : List In} (h : PS w ws P fv futs depth fuel vals fs) (hz : P < ws.heap.size)
    (hg : ws.grownBy w2 (some (w.heap.size + 1))) (hl : LN w.heap.size w2 (w.heap.size + 1)) (hv : w2.ownsRow ws.heap.size 54 4 v xs.length (cellsI xs))
    (hg3 : w2.grownBy w3 fv.ownBlock) (hr3 : w3.ownsRow (P + 1) 55 1 fv' (vals.length + 1) (vals ++ [v])) : PS w (w3.setCell ⟨P, 0, none⟩ fv') P fv' futs depth fuel (vals ++ [v]) (fs ++ [xs]) := by
  have h2 := h.grown hg hl
  have hf := h.far
  have hb3 : ∀ b, b < w2.heap.size → fv.ownBlock ≠ some b → w3.heap[b]? = w2.heap[b]? := fun b h1 h2 => hg3.block b h1 fun e => h2 e.symm
  have hset : ∀ b, b ≠ P → (w3.setCell ⟨P, 0, none⟩ fv').heap[b]? = w3.heap[b]? := fun b hb => Below.heap_setCell _ _ _ _ hb
  have hlow : ∀ b, b ≤ P → fv.ownBlock ≠ some b := fun b hb e => by have := h2.row.lt b e; omega
  have hz2 : P < w2.heap.size := Nat.lt_of_lt_of_le hz hg.size
  have hbel : Below w.heap.size w2 (w3.setCell ⟨P, 0, none⟩ fv') := ⟨hg3.os, hg3.tape, hg3.output, by have := hg3.size; simp [World.setCell]; omega, fun k hk => (hset k (by omega)).trans (hb3 k (by omega) (hlow k (by omega)))⟩
  refine ⟨h.far, ?_, ?_, ?_, ?_, by simp [h.len], fun j h1 h2' => ?_, h2.below.trans hbel, apart_snoc h.apart (n := ws.heap.size) (fun j hj g hg => ((h.fns j hj (by rw [← h.len]; exact hj)).lt g hg).2) (fun g hg => (hv.lt g hg).1)⟩
  · rw [hset _ (by omega), hb3 _ (lt_of_block h2.res) (hlow _ (by omega))]
    exact h2.res
  · exact hl.kept hbel ((hset _ (by omega)).trans (hb3 _ hl.lt (hlow _ (by omega))))
  · have e := (hb3 _ hz2 (hlow _ (Nat.le_refl _))).trans h2.box
    rw [heap_setCell_same _ _ _ _ _ _ e]
    rfl
  · have := owns_same (w' := w3.setCell ⟨P, 0, none⟩ fv') hr3 fun g hg => hset g (by have := hr3.lt g hg; omega)
    simpa using this
  · by_cases hj : j < vals.length
    · have e1 : (vals ++ [v])[j] = vals[j] := List.getElem_append_left hj
      have hj2 : j < fs.length := by rw [← h.len]; exact hj
      have e2 : (fs ++ [xs])[j] = fs[j] := List.getElem_append_left hj2
      rw [e1, e2]
      have ho := h2.fns j hj hj2
      refine owns_same ho fun g hg => ?_
      have := ho.lt g hg
      rw [hset g (by omega)]
      exact hb3 g this.2 (own_ne ho h2.row (by decide) g hg)
    · have e : j = vals.length := by simp at h1; omega
      subst e
      have e2 : (fs ++ [xs])[vals.length]'h2' = xs := by simp [h.len]
      rw [e2]
      have e1 : (vals ++ [v])[vals.length]'h1 = v := by simp
      rw [e1]
      have ho := owns_mono hv (base' := P + 1) (by omega)
      refine owns_same ho fun g hg => ?_
      have := ho.lt g hg
      rw [hset g (by omega)]
      exact hb3 g this.2 (own_ne ho h2.row (by decide) g hg)
theorem okFn_mk {funcs futs k c : Int} {xs : List In} {j : Nat} (h : ∀ x ∈ xs, okIns funcs futs k x) (hl : xs.length = j) (hk : k = (j : Int) + 1) (hb : 2 ≤ k ∧ k ≤ 11) (h0 : 0 ≤ c) (h1 : c < 4) : okFn funcs futs (xs ++ [(⟨15, c, 0, 0⟩ : In)]) := by
  have e : ((xs ++ [(⟨15, c, 0, 0⟩ : In)]).length : Int) = k := by simp; omega
  refine ⟨by omega, by omega, fun x hx => ?_, c, h0, by omega, by simp⟩
  rw [e]
  simp at hx
  rcases hx with hx | rfl
  · exact h x hx
  · exact ok_ret ⟨h0, by omega⟩
theorem okPr_mk {funcs futs depth fuel : Int} {fs : List (List In)} {n : Nat} (hl : fs.length = n) (hn : (n : Int) = funcs) (hb : 1 ≤ funcs ∧ funcs ≤ 4) (hok : ∀ f ∈ fs, okFn funcs futs f) (h1 : 0 ≤ futs ∧ futs ≤ 3) (h2 : 0 ≤ depth ∧ depth ≤ 3) (h3 : 5 ≤ fuel ∧ fuel ≤ 44) : OkPr ⟨fs, futs, depth, fuel⟩ := by
  refine ⟨by show 1 ≤ fs.length; omega, by show fs.length ≤ 4; omega, fun f hf => ?_, h1, h2, h3⟩
  have e : ((fs.length : Nat) : Int) = funcs := by omega
  show okFn fs.length futs f
  rw [e]
  exact hok f hf
theorem LN.drew {B : Nat} {w : World} {g : Nat} (h : LN B w g) : LN B w.drew g := h.kept (Below.refl _ _).drew rfl
theorem LN.alloc {B : Nat} {w : World} {g : Nat} (h : LN B w g) (hB : B ≤ w.heap.size) (o : Obj) : LN B (w.alloc o) g := h.kept ((Below.refl _ _).alloc hB _) (Below.heap_alloc _ _ _ h.lt)
theorem LN.grownOwn {B : Nat} {w w' : World} {g : Nat} {row : Option Nat} (h : LN B w g) (hg : w.grownBy w' row) (hr : row ≠ some g) (hB : ∀ k, row = some k → B ≤ k) (hBw : B ≤ w.heap.size) : LN B w' g :=
  h.kept ⟨hg.os, hg.tape, hg.output, hg.size, fun k hk => hg.block k (by omega) (fun e => by have := hB k e.symm; omega)⟩ (hg.block g h.lt fun e => hr e.symm)
/-- a program's rows, as the owner has them -/
structure OwnP (w : World) (B : Nat) (fv : Value) (vals : List Value) (fs : List (List In)) : Prop where
  row : w.ownsRow B 55 1 fv vals.length vals
  len : vals.length = fs.length
  fns : ∀ j (h : j < vals.length) (h2 : j < fs.length), w.ownsRow B 54 4 vals[j] fs[j].length (cellsI fs[j])
  apart : Apart vals
theorem OwnP.slF {w : World} {B : Nat} {fv : Value} {vals : List Value} {fs : List (List In)} (h : OwnP w B fv vals fs) : SlF w fv fs := by
  have hr := h.row
  rcases hr.2 with ⟨rfl, h0⟩ | ⟨g, cap, cur, rfl, h1, h2, h3, h4, h5, h6⟩
  · obtain rfl : fs = [] := List.eq_nil_of_length_eq_zero (by rw [← h.len]; exact h0)
    exact ⟨none, 0, rfl, fun k hk => by simp at hk⟩
  · refine ⟨some ⟨g, 0, none⟩, cap, by rw [h.len], fun k hk => ?_⟩
    have hk' : k < vals.length := by rw [h.len]; exact hk
    refine ⟨g, 0, vals[k], rfl, ?_, own_slI (h.fns k hk' hk)⟩
    rw [Nat.zero_add, hr.cellAt k (by omega), List.getElem?_eq_getElem hk']
theorem OwnP.kept {w w' : World} {B : Nat} {fv : Value} {vals : List Value} {fs : List (List In)} (h : OwnP w B fv vals fs) (hb : ∀ g, B ≤ g → g < w.heap.size → w'.heap[g]? = w.heap[g]?) : OwnP w' B fv vals fs :=
  ⟨owns_same h.row fun g hg => hb g (h.row.lt g hg).1 (h.row.lt g hg).2, h.len, fun j h1 h2 => owns_same (h.fns j h1 h2) fun g hg => hb g ((h.fns j h1 h2).lt g hg).1 ((h.fns j h1 h2).lt g hg).2, h.apart⟩
theorem PS.own {w wr : World} {P : Nat} {fv : Value} {futs depth fuel : Int} {vals : List Value} {fs : List (List In)} (h : PS w wr P fv futs depth fuel vals fs) : OwnP wr (w.heap.size + 1) fv vals fs :=
  ⟨owns_mono h.row (by have := h.far; omega), h.len, fun j h1 h2 => owns_mono (h.fns j h1 h2) (by have := h.far; omega), h.apart⟩
/-- behind the walk: a program that may be put, of one's own -/
def ProgOwn (w : World) (cancels : Bool) (e : Ending) (w' : World) : Prop := ∃ p fv vals, OkPr p ∧ (cancels = false → ∀ f ∈ p.fs, ∀ x ∈ f, x.o ≠ 13) ∧ e = .returned (.agg #[fv, .int .i64 p.futs, .int .i64 p.depth, .int .i64 p.fuel]) ∧ OwnP w' (w.heap.size + 1) fv vals p.fs ∧ Below w.heap.size w w'
/-- behind the walk: a program that may be put -/
def ProgPost (w : World) (e : Ending) (w' : World) : Prop := ∃ p fv, OkPr p ∧ e = .returned (.agg #[fv, .int .i64 p.futs, .int .i64 p.depth, .int .i64 p.fuel]) ∧ SlF w' fv p.fs ∧ Below w.heap.size w w'
set_option maxRecDepth 4000 in
set_option maxHeartbeats 2000000 in
theorem prog_own (nv : Value) (cancels : Bool) (w : World) (hn : ∃ ad len cap, nv = .slice ad len cap ∧ len ≤ cap ∧ cap ≤ 9223372036854775807 ∧ LAt w.heap.size w ad len) :
    Calls Tryd.prog 19 #[nv, .bool cancels] w fun e w' => ProgOwn w cancels e w' := by
  obtain ⟨ad, len, cap, rfl, hn1, hn2, hn3⟩ := hn
  obtain ⟨i0, hi, hz0, hz1', hz2⟩ := info_parts infoIns
  obtain ⟨i1, ki, kz0, kz1, kz2⟩ := info_parts infoFns
  have hb0 : Below w.heap.size w ((w.alloc (.cells #[.slice none 0 0, .int .i64 0, .int .i64 0, .int .i64 0] 24)).alloc (.cells #[.slice ad len cap] 71)) := ((Below.refl _ _).alloc (Nat.le_refl _) _).alloc (by simp) _
  have hL0 : LN w.heap.size ((w.alloc (.cells #[.slice none 0 0, .int .i64 0, .int .i64 0, .int .i64 0] 24)).alloc (.cells #[.slice ad len cap] 71)) (w.heap.size + 1) := ⟨ad, len, cap, heap_alloc2_new _ _ _, hn1, hn2, hn3.kept hb0⟩
  have hr0 : ((w.alloc (.cells #[.slice none 0 0, .int .i64 0, .int .i64 0, .int .i64 0] 24)).alloc (.cells #[.slice ad len cap] 71)).heap[w.heap.size]? = some (.cells #[.slice none 0 0, .int .i64 0, .int .i64 0, .int .i64 0] 24 (0, 0)) := heap_alloc2_old _ _ _
  go_enter Tryd.func19, Tryd.ntmps19
  go_wp2_with fail
  refine (next_any w.heap.size _ _ _ hL0 (by omega) (by omega) (by omega)).mono ?_
  rintro e w1 ⟨v, rfl, hv0, hv1, hg1, hL1⟩
  have hr1 := (hg1.block _ (lt_of_block hr0) (by simp)).trans hr0
  have hb1 : Below w.heap.size w w1 := hb0.trans ⟨hg1.os, hg1.tape, hg1.output, hg1.size, fun k hk => hg1.block k (by simp; omega) (by simp; omega)⟩
  have hz1 := hL1.lt
  clear hg1 hL0 hb0 hr0
  obtain ⟨futs, hfu⟩ : ∃ x, v % 4 = x := ⟨_, rfl⟩
  obtain ⟨depth, hde⟩ : ∃ x, v / 4 % 4 = x := ⟨_, rfl⟩
  obtain ⟨fuel, hfe⟩ : ∃ x, 5 + v / 16 % 40 = x := ⟨_, rfl⟩
  obtain ⟨funcs, hfn⟩ : ∃ x, 1 + v / 640 % 4 = x := ⟨_, rfl⟩
  have bfu : 0 ≤ futs ∧ futs ≤ 3 := by omega
  have bde : 0 ≤ depth ∧ depth ≤ 3 := by omega
  have bfe : 5 ≤ fuel ∧ fuel ≤ 44 := by omega
  have bfn : 1 ≤ funcs ∧ funcs ≤ 4 := by omega
  have hP0 : PS w (w1.alloc (.cells #[.slice none 0 0, .int .i64 futs, .int .i64 depth, .int .i64 fuel] 24)) w1.heap.size (.slice none 0 0) futs depth fuel [] [] :=
    ⟨hz1, (Below.heap_alloc _ _ _ (by omega)).trans hr1, hL1.kept ((Below.refl _ _).alloc (by omega) _) (Below.heap_alloc _ _ _ hz1), heap_alloc_new _ _, World.ownsRow_nil _ _ _ _, rfl, by intro j h; simp at h, hb1.alloc hb1.size _, apart_nil⟩
  go_wp2_with fail
  clear hfu hde hfe hfn hv0 hv1 hr1 hb1 hL1
  go_loopw [9] (fun i wr => ∃ (n : Nat) (fv : Value) (vals : List Value) (fs : List (List In)), (n : Int) ≤ funcs ∧ i = .int .i64 n ∧ fs.length = n ∧ (∀ f ∈ fs, okFn funcs futs f) ∧ (cancels = false → ∀ f ∈ fs, ∀ x ∈ f, x.o ≠ 13) ∧ PS w wr w1.heap.size fv futs depth fuel vals fs) (fun i _ => (funcs - intOf i).toNat)
  case atStart => exact ⟨0, _, [], [], by omega, rfl, rfl, by simp, by simp, hP0⟩
  case round =>
    obtain ⟨n, fv, vals, fs, hnf, rfl, hfl, hok, hnc', hP⟩ := hrel
    have HNC : Hid (cancels = false → ∀ f ∈ fs, ∀ x ∈ f, x.o ≠ 13) := hnc'
    clear hnc'
    clear hP0
    have HL : Hid (fs.length = n) := hfl
    have hvl : vals.length ≤ 4 := by have := hP.len; omega
    clear hfl
    have hzP := lt_of_block hP.box
    have hzL := hP.ln.lt
    by_cases hlt : (n : Int) < funcs
    · obtain ⟨W, rfl⟩ : ∃ W, W = wr := ⟨wr, rfl⟩
      go_wp2_with fail
      refine (next_any w.heap.size _ _ _ hP.ln (by omega) (by omega) (by omega)).mono ?_
      rintro e w2 ⟨q, rfl, hq0, hq1, hg2, hL2⟩
      obtain ⟨k, hk⟩ : ∃ k, 2 + q = k := ⟨_, rfl⟩
      have hk2 : 2 ≤ k ∧ k ≤ 11 := by omega
      go_wp2_with fail
      clear hq0 hq1
      go_loopw [11, 12] (fun fvv jj wr => ∃ (j : Nat) (xs : List In), (j : Int) + 1 ≤ k ∧ jj = .int .i64 j ∧ xs.length = j ∧ (∀ x ∈ xs, okIns funcs futs k x) ∧ (cancels = false → ∀ x ∈ xs, x.o ≠ 13) ∧ wr.ownsRow W.heap.size 54 4 fvv xs.length (cellsI xs) ∧ LN w.heap.size wr (w.heap.size + 1) ∧ W.grownBy wr (some (w.heap.size + 1))) (fun _ jj _ => (k - intOf jj).toNat)
      case atStart => exact ⟨0, [], by omega, rfl, rfl, by simp, by simp, World.ownsRow_nil _ _ _ _, hL2, hg2⟩
      case round =>
        obtain ⟨j, xs, hjk, rfl, hxl, hxs, hxc', hown, hL, hgr⟩ := hrel
        have HXC : Hid (cancels = false → ∀ x ∈ xs, x.o ≠ 13) := hxc'
        clear hxc'
        have HX : Hid (xs.length = j) := hxl
        have hxb : xs.length ≤ 11 := by omega
        clear hxl
        have hPr := hP.grown hgr hL
        have hWs := hgr.size
        have cf := cell_of_row wr _ 1 _ _ _ hPr.box
        simp at cf
        by_cases hj1 : (j : Int) + 1 < k
        · go_wp2_with fail
          refine (ins_any w.heap.size _ funcs futs _ k _ hL (by omega) (by omega) (by omega) (by omega) (by omega) (by omega) (by omega) (by omega)).mono ?_
          rintro e w3 ⟨x, rfl, hokx, hx13', hgx, hLx⟩
          have HX13 : Hid (x.o ≠ 13) := hx13'
          clear hx13'
          have hgr3 := grown_trans hgr hgx
          have hown3 : w3.ownsRow W.heap.size 54 4 u11 xs.length (cellsI xs) := owns_same hown fun g hg => hgx.block g (hown.lt g hg).2 (by have := (hown.lt g hg).1; simp; omega)
          have hz3 := hLx.lt
          have hWz : W.heap.size ≤ w3.heap.size := hgr3.size
          by_cases hcc : cancels = true ∧ x.o = 14
          · obtain ⟨rfl, ho⟩ := hcc
            have ho2 : (x.o == 14) = true := by simp [ho]
            have HO : Hid (x.o = 14) := ho
            clear ho
            go_wp2_with fail
            refine (next_any w.heap.size _ _ _ (hLx.alloc (by omega) _) (by omega) (by omega) (by omega)).mono ?_
            rintro e w5 ⟨c, rfl, hc0, hc1, hg5, hL5⟩
            have hX5 : w5.heap[w3.heap.size]? = some (.cells #[.int .i64 x.o, .int .i64 x.a, .int .i64 x.b, .int .i64 x.c] 54 (0, 0)) := (hg5.block _ (by simp) (by simp; omega)).trans (heap_alloc_new _ _)
            have hgr5 := grown_trans (grown_alloc hgr3 _) hg5
            have hown5 : w5.ownsRow W.heap.size 54 4 u11 xs.length (cellsI xs) := owns_same (hown3.alloc _) fun g hg => hg5.block g (by have := (hown3.lt g hg).2; simp; omega) (by have := (hown3.lt g hg).1; simp; omega)
            have c0 := cell_of_row w5 _ 0 _ _ _ hX5
            have c1 := cell_of_row w5 _ 1 _ _ _ hX5
            have c2 := cell_of_row w5 _ 2 _ _ _ hX5
            have c3 := cell_of_row w5 _ 3 _ _ _ hX5
            have f0 := frozen_of_row w5 _ 0 _ _ hX5
            have f1 := frozen_of_row w5 _ 1 _ _ hX5
            have f2 := frozen_of_row w5 _ 2 _ _ hX5
            have f3 := frozen_of_row w5 _ 3 _ _ hX5
            simp at c0 c1 c2 c3
            have hX5l := lt_of_block hX5
            have hown6 : ((((w5.setCell ⟨w3.heap.size, 0, none⟩ (.int .i64 13)).setCell ⟨w3.heap.size, 1, none⟩ (.int .i64 c)).setCell ⟨w3.heap.size, 2, none⟩ (.int .i64 0)).setCell ⟨w3.heap.size, 3, none⟩ (.int .i64 0)).ownsRow W.heap.size 54 4 u11 xs.length (cellsI xs) := owns_same hown5 fun g hg => by
              have := (hown3.lt g hg).2
              rw [Below.heap_setCell _ _ _ _ (by simp; omega), Below.heap_setCell _ _ _ _ (by simp; omega), Below.heap_setCell _ _ _ _ (by simp; omega), Below.heap_setCell _ _ _ _ (by simp; omega)]
            have hgr6 : W.grownBy ((((w5.setCell ⟨w3.heap.size, 0, none⟩ (.int .i64 13)).setCell ⟨w3.heap.size, 1, none⟩ (.int .i64 c)).setCell ⟨w3.heap.size, 2, none⟩ (.int .i64 0)).setCell ⟨w3.heap.size, 3, none⟩ (.int .i64 0)) (some (w.heap.size + 1)) := grown_setCell' (grown_setCell' (grown_setCell' (grown_setCell' hgr5 hWz _) hWz _) hWz _) hWz _
            have hL6 : LN w.heap.size ((((w5.setCell ⟨w3.heap.size, 0, none⟩ (.int .i64 13)).setCell ⟨w3.heap.size, 1, none⟩ (.int .i64 c)).setCell ⟨w3.heap.size, 2, none⟩ (.int .i64 0)).setCell ⟨w3.heap.size, 3, none⟩ (.int .i64 0)) (w.heap.size + 1) := (((hL5.setCell (p := ⟨w3.heap.size, 0, none⟩) (by simp; omega) (by simp; omega) _).setCell (p := ⟨w3.heap.size, 1, none⟩) (by simp; omega) (by simp; omega) _).setCell (p := ⟨w3.heap.size, 2, none⟩) (by simp; omega) (by simp; omega) _).setCell (p := ⟨w3.heap.size, 3, none⟩) (by simp; omega) (by simp; omega) _
            have hsz6 : ((((w5.setCell ⟨w3.heap.size, 0, none⟩ (.int .i64 13)).setCell ⟨w3.heap.size, 1, none⟩ (.int .i64 c)).setCell ⟨w3.heap.size, 2, none⟩ (.int .i64 0)).setCell ⟨w3.heap.size, 3, none⟩ (.int .i64 0)).heap.size = w5.heap.size := by simp [World.setCell]
            have HS6 : Hid (((((w5.setCell ⟨w3.heap.size, 0, none⟩ (.int .i64 13)).setCell ⟨w3.heap.size, 1, none⟩ (.int .i64 c)).setCell ⟨w3.heap.size, 2, none⟩ (.int .i64 0)).setCell ⟨w3.heap.size, 3, none⟩ (.int .i64 0)).heap.size = w5.heap.size) := hsz6
            have hw5 := hg5.size
            simp at hw5
            clear hsz6 hg5 hX5 hown hown3 hown5 hgr hgr3 hgr5 hgx hLx hL5
            go_wp2_with (at_builtin; refine wpList_append_own _ rfl _ _ 55 rfl W.heap.size 54 i0 (.agg #[.int .i64 0, .int .i64 0, .int .i64 0, .int .i64 0]) 4 32 Tryd.underlying55 hi hz0 hz1' hz2 rfl (by decide) _ _ _ rfl (hown6.alloc _) ⟨w5.heap.size, 0, none⟩ 1 1 (insC ⟨13, c, 0, 0⟩) rfl rfl ?d1 ?d2 ?d3 ?d4 ?d5 ?_)
            case d1 => have h := insC_new ((((w5.setCell ⟨w3.heap.size, 0, none⟩ (.int .i64 13)).setCell ⟨w3.heap.size, 1, none⟩ (.int .i64 c)).setCell ⟨w3.heap.size, 2, none⟩ (.int .i64 0)).setCell ⟨w3.heap.size, 3, none⟩ (.int .i64 0)) ⟨13, c, 0, 0⟩ 54; rw [HS6.out] at h; exact h
            case d2 => exact insC_one _
            case d3 => unfold maxLen; omega
            case d4 => omega
            case d5 => simp [World.setCell]; omega
            intro v' w4 hown4 hgrow _
            have hgr4 := grown_own (grown_alloc hgr6 _) hgrow fun g hg => (hown6.lt g hg).1
            have hL4 := (hL6.alloc (by rw [HS6.out]; omega) _).grownOwn hgrow (fun e => by have := (hown6.lt _ e).1; omega) (fun g hg => by have := (hown6.lt g hg).1; omega) (by simp [World.setCell]; omega)
            have hown7 : w4.ownsRow W.heap.size 54 4 v' (xs ++ [(⟨13, c, 0, 0⟩ : In)]).length (cellsI (xs ++ [(⟨13, c, 0, 0⟩ : In)])) := by rw [cellsI_snoc, List.length_append]; exact hown4
            clear hgrow hown4 hown6 hgr6 hL6
            go_wp2_with fail
            go_roundw
            case rel => exact ⟨j + 1, xs ++ [(⟨13, c, 0, 0⟩ : In)], by omega, by go_num, by simp [HX.out], fun y hy => by simp at hy; rcases hy with hy | rfl; exact hxs y hy; exact ok_cancel ⟨hc0, by omega⟩, fun h => by simp at h, hown7, hL4, hgr4⟩
            case measure => simp [intOf]; omega
          · have hcase : cancels = false ∨ (cancels = true ∧ (x.o == 14) = false) := by
              cases cancels
              · exact .inl rfl
              · exact .inr ⟨rfl, by simp at hcc ⊢; exact hcc⟩
            clear hcc
            rcases hcase with rfl | ⟨rfl, ho2⟩
            all_goals
              go_wp2_with (at_builtin; refine wpList_append_own _ rfl _ _ 55 rfl W.heap.size 54 i0 (.agg #[.int .i64 0, .int .i64 0, .int .i64 0, .int .i64 0]) 4 32 Tryd.underlying55 hi hz0 hz1' hz2 rfl (by decide) _ _ _ rfl ((hown3.alloc _).alloc _) ⟨w3.heap.size + 1, 0, none⟩ 1 1 (insC x) rfl rfl ?c1 ?c2 ?c3 ?c4 ?c5 ?_)
              case c1 => simpa using insC_new (w3.alloc (.cells #[.int .i64 x.o, .int .i64 x.a, .int .i64 x.b, .int .i64 x.c] 54)) x 54
              case c2 => exact insC_one x
              case c3 => unfold maxLen; omega
              case c4 => omega
              case c5 => simp; omega
              intro v' w4 hown4 hgrow _
              have hgr4 := grown_own (grown_alloc (grown_alloc hgr3 (.cells #[.int .i64 x.o, .int .i64 x.a, .int .i64 x.b, .int .i64 x.c] 54)) _) hgrow fun g hg => (hown3.lt g hg).1
              have hL4 := ((hLx.alloc (by omega) _).alloc (by simp; omega) _).grownOwn hgrow (fun e => by have := (hown3.lt _ e).1; omega) (fun g hg => by have := (hown3.lt g hg).1; omega) (by simp; omega)
              have hown5 : w4.ownsRow W.heap.size 54 4 v' (xs ++ [x]).length (cellsI (xs ++ [x])) := by rw [cellsI_snoc, List.length_append]; exact hown4
              clear hgrow hown4 hown hown3 hL hgr
              go_wp2_with fail
              go_roundw
              case rel => exact ⟨j + 1, xs ++ [x], by omega, by go_num, by simp [HX.out], fun y hy => by simp at hy; rcases hy with hy | rfl; exact hxs y hy; exact hokx, fun h y hy => by simp at hy; rcases hy with hy | rfl; exact HXC.out h y hy; exact HX13.out, hown5, hL4, hgr4⟩
              case measure => simp [intOf]; omega
        · have hkj : k = (j : Int) + 1 := by omega
          have HK : Hid (k = (j : Int) + 1) := hkj
          clear hkj
          have cb := cell_of_row wr _ 0 _ _ _ hPr.box
          simp at cb
          have hsl : ∀ g, u11.ownBlock = some g → W.heap.size ≤ g ∧ g < wr.heap.size := fun g hg => hown.lt g hg
          go_wp2_with fail
          go_region_law (first | (refine step_append_lies _ rfl (.tmp 69) (.tmp 73) 55 rfl W.heap.size 54 i0 (.agg #[.int .i64 0, .int .i64 0, .int .i64 0, .int .i64 0]) 4 32 Tryd.underlying55 hi hz0 hz1' hz2 rfl (by decide) u11 xs.length (cellsI xs) (by simp [Act.eval]) (hown5.alloc _) ⟨w5.heap.size, 0, none⟩ 1 1 (insC ⟨15, c, 0, 0⟩) (by simp [Act.eval]) rfl (insC_new w5 ⟨15, c, 0, 0⟩ 54) (insC_one _) (by omega) (by unfold maxLen; omega) (by omega) (by simp; omega) _ rfl ?_; intro g6 cap6 w6 hown6 hgrow6 hat6 hlt6; have d6 := hgrow6.cell d5a (fun e => by have := hsl _ e.symm; simp at this; omega); have hz6 : w1.heap.size < w6.heap.size := block_lt_of_cell d6; have d6a := fun o => still_alloc w6 o _ _ d6; have hgr6 := grown_own (grown_alloc (grown_trans hgr hg5) _) hgrow6 (fun g hg => (hsl g hg).1); have hL6 := (hL5.alloc (by omega) _).grownOwn hgrow6 (fun e => by have := hsl _ e; omega) (fun g hg => by have := (hsl g hg).1; omega) (by simp; omega); have hP6 := hP.grown hgr6 hL6; have hrow6 := hP6.row; have hbox6 := hP6.box) | (refine step_append_lies _ rfl (.tmp 68) (.tmp 75) 22 rfl (w1.heap.size + 1) 55 i1 (.slice none 0 0) 1 24 Tryd.underlying22 ki kz0 kz1 kz2 rfl (by decide) fv vals.length vals (by simp [Act.eval]) (hrow6.alloc _) ⟨w6.heap.size, 0, none⟩ 1 1 [.slice (some ⟨g6, 0, none⟩) (xs.length + 1) cap6] (by simp [Act.eval]) rfl (one_new _ _ _) (by intro u hu; simp at hu; subst hu; rfl) (by omega) (by unfold maxLen; omega) (by omega) (by simp; omega) _ rfl ?_; intro g7 cap7 w7 hown7 hgrow7 hat7 hlt7; have b7 := (hgrow7.block _ (by simp; omega) (fun e => by have := hrow6.lt _ e.symm; omega)).trans ((Below.heap_alloc _ _ _ hz6).trans hbox6); have c7 := cell_of_row w7 _ 0 _ _ _ b7; simp at c7; have f7 := frozen_of_row w7 _ 0 _ _ b7) | (go_simp; go_at_call 27; refine (next_any w.heap.size _ _ _ (hL.drew) (by omega) (by omega) (by omega)).mono ?_; rintro e w5 ⟨c, rfl, hc0, hc1, hg5', hL5⟩; have hg5 : wr.grownBy w5 (some (w.heap.size + 1)) := ⟨hg5'.os, hg5'.tape, hg5'.output, hg5'.size, hg5'.block⟩; have d5 : w5.cell? ⟨w1.heap.size, 0, none⟩ = some fv := hg5.cell cb (by simp; omega); have d5a : (w5.alloc (.cells #[.int .i64 15, .int .i64 c, .int .i64 0, .int .i64 0] 54)).cell? ⟨w1.heap.size, 0, none⟩ = some fv := still_alloc _ _ _ _ d5; have hown5 : w5.ownsRow W.heap.size 54 4 u11 xs.length (cellsI xs) := owns_same hown fun g hg => hg5.block g (hown.lt g hg).2 (by have := (hown.lt g hg).1; simp; omega); have hz5 := hg5.size))
          all_goals
            have hPn := hP.push hzP (grown_alloc hgr6 (.cells #[.slice (some ⟨g6, 0, none⟩) (xs.length + 1) cap6] 55)) (hL6.alloc (by omega) _) (v := .slice (some ⟨g6, 0, none⟩) (xs.length + 1) cap6) (xs := xs ++ [(⟨15, c, 0, 0⟩ : In)]) (by rw [cellsI_snoc, List.length_append]; exact hown6.alloc _) hgrow7 hown7
            have hfn := okFn_mk hxs HX.out HK.out hk2 hc0 hc1
            clear hgrow7 hown7 hgrow6 hown6 hgr6 hL6 hown5 hg5 hL5 hown hL hgr hP6 hrow6 hbox6 hPr b7 c7 f7 d6 d6a d5 d5a
            go_wp2_with fail
            go_roundw
            case rel => exact ⟨n + 1, _, _, fs ++ [xs ++ [(⟨15, c, 0, 0⟩ : In)]], by omega, by go_num, by simp [HL.out], fun f hf => by simp at hf; rcases hf with hf | rfl; exact hok f hf; exact hfn, fun h f hf => by simp at hf; rcases hf with hf | rfl; exact HNC.out h f hf; intro x hx; simp at hx; rcases hx with hx | rfl; exact HXC.out h x hx; simp, hPn⟩
            case measure => simp [intOf]; omega
    · have hnn : (n : Int) = funcs := by omega
      have HN : Hid ((n : Int) = funcs) := hnn
      clear hnn
      have b0 := cell_of_row wr _ 0 _ _ _ hP.box
      have b1 := cell_of_row wr _ 1 _ _ _ hP.box
      have b2 := cell_of_row wr _ 2 _ _ _ hP.box
      have b3 := cell_of_row wr _ 3 _ _ _ hP.box
      have r0 := cell_of_row wr _ 0 _ _ _ hP.res
      have r1 := cell_of_row wr _ 1 _ _ _ hP.res
      have r2 := cell_of_row wr _ 2 _ _ _ hP.res
      have r3 := cell_of_row wr _ 3 _ _ _ hP.res
      have f0 := frozen_of_row wr _ 0 _ _ hP.res
      have f1 := frozen_of_row wr _ 1 _ _ hP.res
      have f2 := frozen_of_row wr _ 2 _ _ hP.res
      have f3 := frozen_of_row wr _ 3 _ _ hP.res
      simp at b0 b1 b2 b3 r0 r1 r2 r3
      obtain ⟨fa, fl, fc, hfv⟩ : ∃ fa fl fc, fv = .slice fa fl fc := by
        rcases hP.row.2 with ⟨h, _⟩ | ⟨g, cap, cur, h, _⟩
        · exact ⟨_, _, _, h⟩
        · exact ⟨_, _, _, h⟩
      subst hfv
      have hSl : OwnP ((((wr.setCell ⟨w.heap.size, 0, none⟩ (.slice fa fl fc)).setCell ⟨w.heap.size, 1, none⟩ (.int .i64 futs)).setCell ⟨w.heap.size, 2, none⟩ (.int .i64 depth)).setCell ⟨w.heap.size, 3, none⟩ (.int .i64 fuel)) (w.heap.size + 1) (.slice fa fl fc) vals fs := hP.own.kept fun b h1 h2 => by
        rw [Below.heap_setCell _ _ _ _ (by simp; omega), Below.heap_setCell _ _ _ _ (by simp; omega), Below.heap_setCell _ _ _ _ (by simp; omega), Below.heap_setCell _ _ _ _ (by simp; omega)]
      have hBl : Below w.heap.size w ((((wr.setCell ⟨w.heap.size, 0, none⟩ (.slice fa fl fc)).setCell ⟨w.heap.size, 1, none⟩ (.int .i64 futs)).setCell ⟨w.heap.size, 2, none⟩ (.int .i64 depth)).setCell ⟨w.heap.size, 3, none⟩ (.int .i64 fuel)) := (((hP.below.setCell (p := ⟨w.heap.size, 0, none⟩) (Nat.le_refl _) _).setCell (p := ⟨w.heap.size, 1, none⟩) (Nat.le_refl _) _).setCell (p := ⟨w.heap.size, 2, none⟩) (Nat.le_refl _) _).setCell (p := ⟨w.heap.size, 3, none⟩) (Nat.le_refl _) _
      have hOk : OkPr ⟨fs, futs, depth, fuel⟩ := okPr_mk HL.out HN.out bfn hok bfu bde bfe
      clear hP
      go_wp2_with fail
      exact bodyPost_ret (v := .agg #[.slice fa fl fc, .int .i64 futs, .int .i64 depth, .int .i64 fuel]) (by simp [results, Tryd.results19, go_sem, r0, r1, r2, r3]) rfl ⟨⟨fs, futs, depth, fuel⟩, _, vals, hOk, HNC.out, rfl, hSl, hBl⟩
theorem prog_any (nv : Value) (cancels : Bool) (w : World) (hn : ∃ ad len cap, nv = .slice ad len cap ∧ len ≤ cap ∧ cap ≤ 9223372036854775807 ∧ LAt w.heap.size w ad len) :
    Calls Tryd.prog 19 #[nv, .bool cancels] w fun e w' => ProgPost w e w' := by
  refine (prog_own nv cancels w hn).mono ?_
  rintro e w' ⟨p, fv, vals, hok, -, rfl, hO, hb⟩
  exact ⟨p, fv, hok, rfl, hO.slF, hb⟩
end Go.Proofs.YtpmapdialjdcbaaDoor.C2
namespace Go.Proofs.YtpmapdialjdcbaaDoor.C2
open Go.RowKit

theorem insBI_length (x : In) : (insBI x).length = if x.o = 1 then 6 else 4 := by
  unfold insBI insB restB
  by_cases h : x.o = 1
  · simp [be_length, widthOf, h]
  · simp [be_length, widthOf, h]
theorem code_ge (f : List In) : 4 * f.length ≤ (codeB f).length := by
  induction f with
  | nil => simp [codeB]
  | cons x f ih =>
    have h := insBI_length x
    simp only [codeB, List.map_cons, List.flatten_cons, List.length_append, List.length_cons] at ih ⊢
    split at h <;> omega
theorem madeCells_at (z : Value) (n j : Nat) (h : j < n) : (madeCells #[z] n)[j]? = some z := by
  have := toList_madeCells_one z n
  rw [← Array.getElem?_toList, this, List.getElem?_replicate, if_pos h]
theorem madeCells_four (z : Value) (n j : Nat) (h : j < n) : (madeCells #[z, z, z, z] n)[j]? = some z := by
  have hm : j % 4 < 4 := Nat.mod_lt _ (by omega)
  simp only [madeCells]
  simp [h]
  rcases (by omega : j % 4 = 0 ∨ j % 4 = 1 ∨ j % 4 = 2 ∨ j % 4 = 3) with h | h | h | h <;> simp [h]
theorem slF_nils {w : World} {G n : Nat} (h : w.heap[G]? = some (.cells (nilRow n) 55 (0, 0))) : SlF w (.slice (some ⟨G, 0, none⟩) n n) (List.replicate n []) := by
  refine ⟨some ⟨G, 0, none⟩, n, by simp, fun k hk => ⟨G, 0, .slice none 0 0, rfl, ?_, ?_⟩⟩
  · have hk' : k < n := by simpa using hk
    rw [Nat.zero_add, cell_of_row w G k _ _ _ h, nilRow, madeCells_at _ _ _ (by omega)]
  · rw [List.getElem_replicate]
    exact ⟨none, 0, rfl, fun k hk => by simp at hk⟩
theorem slI_zeros {w : World} {G n : Nat} (h : w.heap[G]? = some (.cells (zeroRow n) 54 (0, 0))) : SlI w (.slice (some ⟨G, 0, none⟩) n n) (List.replicate n ⟨0, 0, 0, 0⟩) := by
  refine ⟨some ⟨G, 0, none⟩, n, by simp, fun k hk => ⟨G, 0, rfl, ?_⟩⟩
  have hk' : k < n := by simpa using hk
  rw [List.getElem_replicate]
  constructor <;> rw [cell_of_row w G _ _ _ _ h, zeroRow, madeCells_four _ _ _ (by omega)]
theorem strB_size (l : List UInt8) : (strB l).size = l.length := by simp [strB, ByteArray.size]
theorem big13 (a b c : Int) : putE ⟨List.replicate 13 [], a, b, c⟩ = 2 := by
  have : bigB (List.replicate 13 []) = true := by decide
  exact if_pos this
theorem big41 (a b c : Int) : putE ⟨[List.replicate 41 ⟨0, 0, 0, 0⟩], a, b, c⟩ = 2 := by
  have : bigB [List.replicate 41 ⟨0, 0, 0, 0⟩] = true := by decide
  exact if_pos this
/-- the numbers that are handed in, readable -/
def NumsIn (w : World) (nv : Value) (len : Nat) : Prop := ∃ ad cap, nv = .slice ad len cap ∧ len ≤ cap ∧ cap ≤ 9223372036854775807 ∧ LAt w.heap.size w ad len
end Go.Proofs.YtpmapdialjdcbaaDoor.C2
