/-
  Helpers: L3Rd.
-/
import Derived.Test.YtnhogbgnnnniaaaDoorAsmAllBun4
import Derived.OwnWalk
import Derived.OneCell
import Derived.Below
import Derived.Deep.AppendLies
import Derived.Deep.RegionLaw
import Derived.Deep.QuietTactic
import Derived.BigQuiet
namespace Go.Proofs.YtnhogbgnnnniaaaDoor.L3
open Go.RowKit

theorem owns_same {w w' : World} {base : Nat} {e : TypeId} {size : Nat} {v : Value} {n : Nat} {xs : List Value} (h : w.ownsRow base e size v n xs) (hb : ∀ g, v.ownBlock = some g → w'.heap[g]? = w.heap[g]?) : w'.ownsRow base e size v n xs := by
  refine ⟨h.1, ?_⟩
  rcases h.2 with h0 | ⟨g, cap, cur, rfl, h1, h2, r⟩
  · exact .inl h0
  · exact .inr ⟨g, cap, cur, rfl, h1, (hb g rfl).trans h2, r⟩
theorem own_ne {w : World} {b1 b2 s1 s2 n m : Nat} {e f : TypeId} {v u : Value} {xs ys : List Value} (h1 : w.ownsRow b1 e s1 v n xs) (h2 : w.ownsRow b2 f s2 u m ys) (hne : e ≠ f) (g : Nat) (hv : v.ownBlock = some g) : u.ownBlock ≠ some g := by
  intro hu
  rcases h1.2 with ⟨rfl, _⟩ | ⟨g1, c1, cur1, rfl, _, hg1, _⟩
  · simp [Value.ownBlock] at hv
  · rcases h2.2 with ⟨rfl, _⟩ | ⟨g2, c2, cur2, rfl, _, hg2, _⟩
    · simp [Value.ownBlock] at hu
    · simp [Value.ownBlock] at hv hu
      subst hv
      subst hu
      rw [hg1] at hg2
      simp at hg2
      exact hne hg2.2
def tkC (t : Tk) : List Value := [.int .i64 t.k, .string (strB t.s), .int .i64 t.n, .int .i64 t.l]
def cellsT (T : List Tk) : List Value := (T.map tkC).flatten
theorem cellsT_snoc (T : List Tk) (t : Tk) : cellsT (T ++ [t]) = cellsT T ++ tkC t := by simp [cellsT]
theorem cellsT_length : ∀ T : List Tk, (cellsT T).length = T.length * 4
  | [] => rfl
  | t :: T => by
    have ih := cellsT_length T
    simp only [cellsT, List.map_cons, List.flatten_cons, List.length_append, List.length_cons] at ih ⊢
    rw [ih]
    simp [tkC]
    omega
theorem cellsT_at {T : List Tk} {k : Nat} (h : k < T.length) (j : Nat) (hj : j < 4) : (cellsT T)[k * 4 + j]? = (tkC T[k])[j]? := by
  have e : T = T.take k ++ (T[k] :: T.drop (k + 1)) := by rw [← List.drop_eq_getElem_cons h, List.take_append_drop]
  have e2 : cellsT T = cellsT (T.take k) ++ (tkC T[k] ++ cellsT (T.drop (k + 1))) := by
    conv => lhs; rw [e]
    rw [cellsT, List.map_append, List.flatten_append, List.map_cons, List.flatten_cons]
    rfl
  have hl : (cellsT (T.take k)).length = k * 4 := by rw [cellsT_length, List.length_take]; congr 1; omega
  rw [e2, List.getElem?_append_right (by omega), hl, List.getElem?_append_left (by simp [tkC]; omega)]
  congr 1
  omega
def runeC (ws : List UInt8) : List Value := ws.map fun b => .int .i32 b.toNat
/-- a reader: r its block; from B on lies what it has made -/
structure Rd (w : World) (r B : Nat) (tv wv : Value) (st : St) : Prop where
  lt : r < B
  sz : B ≤ w.heap.size
  box : w.heap[r]? = some (.cells #[tv, .int .i64 st.ln, .int .i64 st.ins, wv, .int .i64 st.num, .int .i64 st.sg] 99 (0, 0))
  tok : w.ownsRow B 104 4 tv st.T.length (cellsT st.T)
  wd : w.ownsRow B 21 1 wv st.ws.length (runeC st.ws)
/-- what a reader's step leaves as it was -/
structure Fr (r B : Nat) (w w' : World) : Prop where
  low : Below r w w'
  mid : ∀ k, r < k → k < B → w'.heap[k]? = w.heap[k]?
theorem Fr.refl (r B : Nat) (w : World) : Fr r B w w := ⟨Below.refl _ _, fun _ _ _ => rfl⟩
theorem Fr.trans {r B : Nat} {a b c : World} (h : Fr r B a b) (k : Fr r B b c) : Fr r B a c := ⟨h.low.trans k.low, fun i h1 h2 => (k.mid i h1 h2).trans (h.mid i h1 h2)⟩
theorem Fr.drew {r B : Nat} {a b : World} (h : Fr r B a b) : Fr r B a b.drew := ⟨h.low.drew, h.mid⟩
theorem Fr.set {r B : Nat} {a b : World} (h : Fr r B a b) (f : Nat) (v : Value) : Fr r B a (b.setCell ⟨r, f, none⟩ v) :=
  ⟨h.low.setCell (p := ⟨r, f, none⟩) (Nat.le_refl _) v, fun i h1 h2 => (Below.heap_setCell _ _ _ _ (by simp; omega)).trans (h.mid i h1 h2)⟩
theorem Fr.alloc {r B : Nat} {a b : World} (h : Fr r B a b) (hr : r ≤ b.heap.size) (hB : B ≤ b.heap.size) (o : Obj) : Fr r B a (b.alloc o) :=
  ⟨h.low.alloc hr o, fun i h1 h2 => (Below.heap_alloc _ _ _ (by omega)).trans (h.mid i h1 h2)⟩
theorem Fr.grown {r B : Nat} {a b c : World} (h : Fr r B a b) (hB : B ≤ b.heap.size) (hr : r < B) {row : Option Nat} (hg : b.grownBy c row) (hrow : ∀ k, row = some k → B ≤ k) : Fr r B a c :=
  ⟨h.low.trans ⟨hg.os, hg.tape, hg.output, hg.size, fun k hk => hg.block k (by omega) fun e => by have := hrow k e.symm; omega⟩,
   fun i h1 h2 => (hg.block i (by omega) fun e => by have := hrow i e.symm; omega).trans (h.mid i h1 h2)⟩
/-- the box turned, all else as it was -/
theorem Rd.boxed {w w' : World} {r B : Nat} {tv wv : Value} {st st' : St} (h : Rd w r B tv wv st) (hs : B ≤ w'.heap.size)
    (hb : w'.heap[r]? = some (.cells #[tv, .int .i64 st'.ln, .int .i64 st'.ins, wv, .int .i64 st'.num, .int .i64 st'.sg] 99 (0, 0)))
    (hk : ∀ k, B ≤ k → k < w.heap.size → w'.heap[k]? = w.heap[k]?) (hT : st'.T = st.T) (hW : st'.ws = st.ws) : Rd w' r B tv wv st' :=
  ⟨h.lt, hs, hb, by rw [hT]; exact owns_same h.tok fun g hg => hk g (h.tok.lt g hg).1 (h.tok.lt g hg).2, by rw [hW]; exact owns_same h.wd fun g hg => hk g (h.wd.lt g hg).1 (h.wd.lt g hg).2⟩
theorem Rd.drew {w : World} {r B : Nat} {tv wv : Value} {st : St} (h : Rd w r B tv wv st) : Rd w.drew r B tv wv st := ⟨h.lt, h.sz, h.box, h.tok, h.wd⟩
theorem Rd.alloc {w : World} {r B : Nat} {tv wv : Value} {st : St} (h : Rd w r B tv wv st) (o : Obj) : Rd (w.alloc o) r B tv wv st :=
  h.boxed (by have := h.sz; simp; omega) ((Below.heap_alloc _ _ _ (lt_of_block h.box)).trans h.box) (fun k _ hk => Below.heap_alloc _ _ _ hk) rfl rfl
theorem Rd.cells {w : World} {r B : Nat} {tv wv : Value} {st : St} (h : Rd w r B tv wv st) :
    w.cell? ⟨r, 0, none⟩ = some tv ∧ w.cell? ⟨r, 1, none⟩ = some (.int .i64 st.ln) ∧ w.cell? ⟨r, 2, none⟩ = some (.int .i64 st.ins) ∧ w.cell? ⟨r, 3, none⟩ = some wv ∧ w.cell? ⟨r, 4, none⟩ = some (.int .i64 st.num) ∧ w.cell? ⟨r, 5, none⟩ = some (.int .i64 st.sg) :=
  ⟨by simp [cell_of_row _ _ _ _ _ _ h.box], by simp [cell_of_row _ _ _ _ _ _ h.box], by simp [cell_of_row _ _ _ _ _ _ h.box], by simp [cell_of_row _ _ _ _ _ _ h.box], by simp [cell_of_row _ _ _ _ _ _ h.box], by simp [cell_of_row _ _ _ _ _ _ h.box]⟩
theorem Rd.frozen {w : World} {r B : Nat} {tv wv : Value} {st : St} (h : Rd w r B tv wv st) (f : Nat) : w.frozen? ⟨r, f, none⟩ = false := frozen_of_row w _ f _ _ h.box
theorem infoTok : (Tryd.prog.info? 104).map (fun i => (i.zero, i.size, i.bytes)) = some (some (.agg #[.int .i64 0, .string ⟨#[]⟩, .int .i64 0, .int .i64 0]), 4, 40) := by kernel_rfl
theorem infoRune : (Tryd.prog.info? 21).map (fun i => (i.zero, i.size, i.bytes)) = some (some (.int .i32 0), 1, 4) := by kernel_rfl
theorem tkC_one (t : Tk) : ∀ u ∈ tkC t, u.oneCell' = true := by
  intro u hu
  simp [tkC] at hu
  rcases hu with rfl | rfl | rfl | rfl <;> rfl
theorem tkC_new (w : World) (t : Tk) (e : TypeId) : ∀ j u, (tkC t)[j]? = some u → (w.alloc (.cells #[.int .i64 t.k, .string (strB t.s), .int .i64 t.n, .int .i64 t.l] e)).cell? ((⟨w.heap.size, 0, none⟩ : Addr).add j) = some u := by
  intro j u hj
  match j, hj with
  | 0, hj => simp [tkC] at hj; subst hj; simp [Addr.add]
  | 1, hj => simp [tkC] at hj; subst hj; simp [Addr.add]
  | 2, hj => simp [tkC] at hj; subst hj; simp [Addr.add]
  | 3, hj => simp [tkC] at hj; subst hj; simp [Addr.add]
theorem Rd.push {w w3 : World} {r B : Nat} {tv wv tv' : Value} {st : St} {t : Tk} (h : Rd w r B tv wv st) (hg : w.grownBy w3 tv.ownBlock)
    (ho : w3.ownsRow B 104 4 tv' (st.T.length + 1) (cellsT st.T ++ tkC t)) :
    Rd (w3.setCell ⟨r, 0, none⟩ tv') r B tv' wv ⟨st.T ++ [t], st.ln, st.ins, st.ws, st.num, st.sg⟩ ∧ Fr r B w (w3.setCell ⟨r, 0, none⟩ tv') := by
  have hsz := h.sz
  have hlt := h.lt
  have hgs := hg.size
  have hset : ∀ b, b ≠ r → (w3.setCell ⟨r, 0, none⟩ tv').heap[b]? = w3.heap[b]? := fun b hb => Below.heap_setCell _ _ _ _ hb
  have hrow : ∀ k, tv.ownBlock = some k → B ≤ k := fun k hk => (h.tok.lt k hk).1
  have hb3 := (hg.block r (by omega) fun e => by have := hrow r e.symm; omega).trans h.box
  refine ⟨⟨h.lt, by simp [World.setCell]; omega, ?_, ?_, ?_⟩, ((Fr.refl r B w).grown hsz hlt hg hrow).set 0 tv'⟩
  · rw [heap_setCell_same _ _ _ _ _ _ hb3]
    rfl
  · rw [List.length_append, cellsT_snoc]
    exact owns_same ho fun g hgg => hset g (by have := (ho.lt g hgg).1; omega)
  · refine owns_same h.wd fun g hgg => ?_
    have := h.wd.lt g hgg
    rw [hset g (by omega)]
    exact hg.block g this.2 fun e => own_ne h.wd h.tok (by decide) g hgg e.symm
theorem Rd.pushW {w w3 : World} {r B : Nat} {tv wv wv' : Value} {st : St} {b : UInt8} (h : Rd w r B tv wv st) (hg : w.grownBy w3 wv.ownBlock)
    (ho : w3.ownsRow B 21 1 wv' (st.ws.length + 1) (runeC st.ws ++ [.int .i32 b.toNat])) :
    Rd (w3.setCell ⟨r, 3, none⟩ wv') r B tv wv' ⟨st.T, st.ln, st.ins, st.ws ++ [b], st.num, st.sg⟩ ∧ Fr r B w (w3.setCell ⟨r, 3, none⟩ wv') := by
  have hsz := h.sz
  have hlt := h.lt
  have hgs := hg.size
  have hset : ∀ b, b ≠ r → (w3.setCell ⟨r, 3, none⟩ wv').heap[b]? = w3.heap[b]? := fun b hb => Below.heap_setCell _ _ _ _ hb
  have hrow : ∀ k, wv.ownBlock = some k → B ≤ k := fun k hk => (h.wd.lt k hk).1
  have hb3 := (hg.block r (by omega) fun e => by have := hrow r e.symm; omega).trans h.box
  refine ⟨⟨h.lt, by simp [World.setCell]; omega, ?_, ?_, ?_⟩, ((Fr.refl r B w).grown hsz hlt hg hrow).set 3 wv'⟩
  · rw [heap_setCell_same _ _ _ _ _ _ hb3]
    rfl
  · refine owns_same h.tok fun g hgg => ?_
    have := h.tok.lt g hgg
    rw [hset g (by omega)]
    exact hg.block g this.2 fun e => own_ne h.tok h.wd (by decide) g hgg e.symm
  · have e : runeC (st.ws ++ [b]) = runeC st.ws ++ [.int .i32 b.toNat] := by simp [runeC]
    rw [List.length_append, e]
    exact owns_same ho fun g hgg => hset g (by have := (ho.lt g hgg).1; omega)
theorem Rd.setAny {w : World} {r B : Nat} {tv wv : Value} {st : St} (h : Rd w r B tv wv st) (f : Nat) (v : Value) (st' : St) (hT : st'.T = st.T) (hW : st'.ws = st.ws)
    (hc : #[tv, .int .i64 st.ln, .int .i64 st.ins, wv, .int .i64 st.num, .int .i64 st.sg].setIfInBounds f v = #[tv, .int .i64 st'.ln, .int .i64 st'.ins, wv, .int .i64 st'.num, .int .i64 st'.sg]) : Rd (w.setCell ⟨r, f, none⟩ v) r B tv wv st' ∧ Fr r B w (w.setCell ⟨r, f, none⟩ v) := by
  have hlt := h.lt
  refine ⟨h.boxed (by have := h.sz; simp [World.setCell]; omega) ?_ (fun k hk _ => Below.heap_setCell _ _ _ _ (by simp; omega)) hT hW, (Fr.refl r B w).set f v⟩
  rw [heap_setCell_same _ _ _ _ _ _ h.box, hc]
theorem Rd.setLn {w : World} {r B : Nat} {tv wv : Value} {st : St} (h : Rd w r B tv wv st) (x : Int) : Rd (w.setCell ⟨r, 1, none⟩ (.int .i64 x)) r B tv wv ⟨st.T, x, st.ins, st.ws, st.num, st.sg⟩ ∧ Fr r B w (w.setCell ⟨r, 1, none⟩ (.int .i64 x)) := h.setAny 1 _ _ rfl rfl rfl
theorem Rd.setIns {w : World} {r B : Nat} {tv wv : Value} {st : St} (h : Rd w r B tv wv st) (x : Int) : Rd (w.setCell ⟨r, 2, none⟩ (.int .i64 x)) r B tv wv ⟨st.T, st.ln, x, st.ws, st.num, st.sg⟩ ∧ Fr r B w (w.setCell ⟨r, 2, none⟩ (.int .i64 x)) := h.setAny 2 _ _ rfl rfl rfl
theorem Rd.setNum {w : World} {r B : Nat} {tv wv : Value} {st : St} (h : Rd w r B tv wv st) (x : Int) : Rd (w.setCell ⟨r, 4, none⟩ (.int .i64 x)) r B tv wv ⟨st.T, st.ln, st.ins, st.ws, x, st.sg⟩ ∧ Fr r B w (w.setCell ⟨r, 4, none⟩ (.int .i64 x)) := h.setAny 4 _ _ rfl rfl rfl
theorem Rd.setSg {w : World} {r B : Nat} {tv wv : Value} {st : St} (h : Rd w r B tv wv st) (x : Int) : Rd (w.setCell ⟨r, 5, none⟩ (.int .i64 x)) r B tv wv ⟨st.T, st.ln, st.ins, st.ws, st.num, x⟩ ∧ Fr r B w (w.setCell ⟨r, 5, none⟩ (.int .i64 x)) := h.setAny 5 _ _ rfl rfl rfl
/-- the word's slice, cut to nothing -/
theorem Rd.cutW {w : World} {r B : Nat} {tv : Value} {wa : Option Addr} {wl wc : Nat} {st : St} (h : Rd w r B tv (.slice wa wl wc) st) :
    Rd (w.setCell ⟨r, 3, none⟩ (.slice wa 0 wc)) r B tv (.slice wa 0 wc) ⟨st.T, st.ln, st.ins, [], st.num, st.sg⟩ ∧ Fr r B w (w.setCell ⟨r, 3, none⟩ (.slice wa 0 wc)) := by
  have hlt := h.lt
  have hset : ∀ b, b ≠ r → (w.setCell ⟨r, 3, none⟩ (.slice wa 0 wc)).heap[b]? = w.heap[b]? := fun b hb => Below.heap_setCell _ _ _ _ hb
  refine ⟨⟨h.lt, by have := h.sz; simp [World.setCell]; omega, ?_, owns_same h.tok fun g hg => hset g (by have := (h.tok.lt g hg).1; omega), ⟨rfl, ?_⟩⟩, (Fr.refl r B w).set 3 _⟩
  · rw [heap_setCell_same _ _ _ _ _ _ h.box]
    rfl
  · rcases h.wd.2 with ⟨h0, h1⟩ | ⟨g, cap, cur, h0, h1, h2, h3, h4, h5, h6⟩
    · cases h0
      exact .inl ⟨rfl, rfl⟩
    · cases h0
      exact .inr ⟨g, wc, cur, rfl, h1, (hset g (by omega)).trans h2, by simp, h4, h5, by simp [runeC]⟩
theorem slice_of {w : World} {base : Nat} {e : TypeId} {size : Nat} {v : Value} {n : Nat} {xs : List Value} (h : w.ownsRow base e size v n xs) : ∃ a c, v = .slice a n c := by
  rcases h.2 with ⟨rfl, rfl⟩ | ⟨g, cap, cur, rfl, _⟩
  · exact ⟨none, 0, rfl⟩
  · exact ⟨_, cap, rfl⟩
/-- what a step that answers nothing leaves -/
def AddPost (r B : Nat) (wv : Value) (st' : St) (w : World) (e : Ending) (w' : World) : Prop := e = .returned (.tuple #[]) ∧ ∃ tv', Rd w' r B tv' wv st' ∧ Fr r B w w'
set_option maxHeartbeats 1000000 in
theorem add_any (r B : Nat) (tv wv : Value) (st : St) (k n l : Int) (s : List UInt8) (w : World) (h : Rd w r B tv wv st) (hT : st.T.length ≤ 100000) :
    Calls Tryd.prog 96 #[.pointer (some ⟨r, 0, none⟩), .agg #[.int .i64 k, .string (strB s), .int .i64 n, .int .i64 l]] w fun e w' => AddPost r B wv (st.add k s n) w e w' := by
  obtain ⟨i0, hi, hz0, hz1, hz2⟩ := info_parts infoTok
  have h1 := h.alloc (.cells #[.int .i64 k, .string (strB s), .int .i64 n, .int .i64 l] 104)
  obtain ⟨-, c1, -⟩ := h1.cells
  have h2 := h.alloc (.cells #[.int .i64 k, .string (strB s), .int .i64 n, .int .i64 st.ln] 104)
  have d0 := h2.cells.1
  have e0 := fun o : Obj => (h2.alloc o).cells.1
  have hnew : ∀ j u, (tkC ⟨k, s, n, st.ln⟩)[j]? = some u → ((w.alloc (.cells #[.int .i64 k, .string (strB s), .int .i64 n, .int .i64 st.ln] 104)).alloc (.cells #[.int .i64 k, .string (strB s), .int .i64 n, .int .i64 st.ln] 104)).drew.cell? ((⟨w.heap.size + 1, 0, none⟩ : Addr).add j) = some u := fun j u hj => by
    have := tkC_new (w.alloc (.cells #[.int .i64 k, .string (strB s), .int .i64 n, .int .i64 st.ln] 104)) ⟨k, s, n, st.ln⟩ 104 j u hj
    rw [show (w.alloc (.cells #[.int .i64 k, .string (strB s), .int .i64 n, .int .i64 st.ln] 104)).heap.size = w.heap.size + 1 by simp] at this
    exact this
  have hsz := h.sz
  have hlt := h.lt
  go_enter Tryd.func96, Tryd.ntmps96
  go_wp2_with fail
  go_region_law (refine step_append_lies _ rfl (.tmp 13) (.tmp 15) 45 rfl B 104 i0 (.agg #[.int .i64 0, .string ⟨#[]⟩, .int .i64 0, .int .i64 0]) 4 40 Tryd.underlying45 hi hz0 hz1 hz2 rfl (by decide) tv st.T.length (cellsT st.T) (by simp [Act.eval]) (h2.alloc _).drew.tok ⟨w.heap.size + 1, 0, none⟩ 1 1 (tkC ⟨k, s, n, st.ln⟩) (by simp [Act.eval]) rfl hnew (tkC_one _) (by omega) (by unfold maxLen; omega) (by omega) (by simp; omega) _ rfl ?_; intro g7 cap7 w7 hown7 hgrow7 hat7 hlt7; have b7 := (hgrow7.block r (by simp; omega) (fun e => by have := h2.tok.lt _ e.symm; omega)).trans (h2.alloc _).drew.box; have c7 := cell_of_row w7 _ 0 _ _ _ b7; simp at c7; have f7 := frozen_of_row w7 _ 0 _ _ b7)
  all_goals
    have hR := (h2.alloc (.cells #[.int .i64 k, .string (strB s), .int .i64 n, .int .i64 st.ln] 104)).drew.push hgrow7 hown7
    have hF : Fr r B w (w7.setCell ⟨r, 0, none⟩ (.slice (some ⟨g7, 0, none⟩) (st.T.length + 1) cap7)) := ((((Fr.refl r B w).alloc (by omega) hsz _).alloc (by simp; omega) (by simp; omega) _).drew).trans hR.2
    go_wp2_with fail
    exact bodyPost_end (v := .tuple #[]) (by simp [results, Tryd.results96, go_sem]) rfl ⟨rfl, _, hR.1, hF⟩
set_option maxHeartbeats 1000000 in
theorem endLine_any (r B : Nat) (tv wv : Value) (st : St) (w : World) (h : Rd w r B tv wv st) (hT : st.T.length ≤ 100000) (hl1 : 0 ≤ st.ln) (hl2 : st.ln ≤ 100000) :
    Calls Tryd.prog 97 #[.pointer (some ⟨r, 0, none⟩)] w fun e w' => AddPost r B wv st.endL w e w' := by
  obtain ⟨c0, c1, c2, c3, c4, c5⟩ := h.cells
  have f1 := h.frozen 1
  clear c2 c3 c4 c5
  have hw : IntKind.i64.wrap (st.ln + 1) = st.ln + 1 := by simp [IntKind.wrap, IntKind.bits, IntKind.signed]; omega
  rcases List.eq_nil_or_concat st.T with hnil | ⟨T', t, hcat⟩
  · obtain ⟨ta, tc, rfl⟩ := slice_of h.tok
    rw [hnil] at c0
    simp only [List.length_nil] at c0
    have hE : st.endL = ⟨st.T, st.ln + 1, st.ins, st.ws, st.num, st.sg⟩ := by simp [St.endL, hnil, openT]
    have hR := h.setLn (st.ln + 1)
    rw [← hE] at hR
    go_enter Tryd.func97, Tryd.ntmps97
    go_wp2_with fail
    exact bodyPost_end (v := .tuple #[]) (by simp [results, Tryd.results97, go_sem]) rfl ⟨rfl, _, hR.1, hR.2⟩
  · obtain ⟨ta, tc, htv⟩ := slice_of h.tok
    have hlen : st.T.length = T'.length + 1 := by rw [hcat]; simp
    rcases h.tok.2 with ⟨h0, h1⟩ | ⟨g, cap, cur, h0, h1, h2, h3, h4, h5, h6⟩
    · omega
    · have hown := h.tok
      subst h0
      clear htv
      have ht : T'.length < st.T.length := by omega
      have hk : w.cell? ⟨g, T'.length * 4, none⟩ = some (.int .i64 t.k) := by
        rw [hown.cellAt _ (by omega), ← Nat.add_zero (T'.length * 4), cellsT_at ht 0 (by omega)]
        have e : st.T[T'.length] = t := by simp [hcat]
        rw [e]
        rfl
      have hb : T'.length ≤ 100000 := by omega
      rw [hlen] at c0
      have hop : openT st.T = (t.k != 4) := by simp [openT, hcat]
      by_cases h4 : t.k = 4
      · have ht4 : (t.k != 4) = false := by simp [h4]
        have hE : st.endL = ⟨st.T, st.ln + 1, st.ins, st.ws, st.num, st.sg⟩ := by simp [St.endL, hop, ht4]
        have hR := h.setLn (st.ln + 1)
        rw [← hE] at hR
        clear hlen hcat hop h4
        go_enter Tryd.func97, Tryd.ntmps97
        go_wp2_with fail
        exact bodyPost_end (v := .tuple #[]) (by simp [results, Tryd.results97, go_sem]) rfl ⟨rfl, _, hR.1, hR.2⟩
      · have ht4 : (t.k != 4) = true := by simp [h4]
        have hE : st.endL = ⟨st.T ++ [⟨4, [], 0, st.ln⟩], st.ln + 1, st.ins, st.ws, st.num, st.sg⟩ := by simp [St.endL, hop, ht4]
        clear hlen hcat hop h4
        go_enter Tryd.func97, Tryd.ntmps97
        go_wp2_with fail
        refine (add_any r B _ wv st 4 0 0 [] w h hT).mono ?_
        rintro e w1 ⟨rfl, tv', hR1, hF1⟩
        obtain ⟨-, d1, -⟩ := hR1.cells
        have f2 := hR1.frozen 1
        have hR := hR1.setLn (st.ln + 1)
        have d1' : w1.cell? ⟨r, 1, none⟩ = some (.int .i64 st.ln) := d1
        clear d1
        go_wp2_with fail
        refine bodyPost_end (v := .tuple #[]) (by simp [results, Tryd.results97, go_sem]) rfl ⟨rfl, tv', ?_, hF1.trans hR.2⟩
        rw [hE]
        exact hR.1
end Go.Proofs.YtnhogbgnnnniaaaDoor.L3
