/-
  Helpers: EvJa, EvTa, EvJn, EvTb.
-/
import Derived.Test.YtpmapdialjdcbaaDoorBuncce5d02cb241
namespace Go.Proofs.YtpmapdialjdcbaaDoor
open Go.RowKit
open C2 (In Pr SlF SlI InsAt Tab BoxedP still_of_below below_then below_alloc Still)
open K6 (Ky)
open V5 (checkF SlN)

def cin (xs : List In) : List Value := (xs.map inC).flatten
theorem cin_app (xs ys : List In) : cin (xs ++ ys) = cin xs ++ cin ys := by simp [cin]
theorem infoIns7 : (Tryd.prog.info? 54).map (fun i => (i.zero, i.size, i.bytes)) = some (some (.agg #[.int .i64 0, .int .i64 0, .int .i64 0, .int .i64 0]), 4, 32) := by kernel_rfl
theorem cin_one (xs : List In) : ∀ u ∈ cin xs, u.oneCell' = true := by
  intro u hu
  simp only [cin, List.mem_flatten, List.mem_map] at hu
  obtain ⟨l, ⟨x, -, rfl⟩, hl⟩ := hu
  simp [inC] at hl
  rcases hl with rfl | rfl | rfl | rfl <;> rfl
theorem own_slI7 {w : World} {base : Nat} {v : Value} {xs : List In} (h : w.ownsRow base 54 4 v xs.length (cin xs)) : SlI w v xs := by
  rcases h.2 with ⟨rfl, h0⟩ | ⟨g, cap, cur, rfl, hb, hg, hn, hc, hs, ht⟩
  · obtain rfl : xs = [] := List.eq_nil_of_length_eq_zero h0
    exact ⟨none, 0, rfl, fun k hk => by simp at hk⟩
  · refine ⟨_, _, rfl, fun k hk => ⟨g, 0, rfl, ?_⟩⟩
    have e : xs = xs.take k ++ (xs[k] :: xs.drop (k + 1)) := by rw [← List.drop_eq_getElem_cons hk, List.take_append_drop]
    have hl : ∀ l : List In, (cin l).length = l.length * 4 := fun l => by
      induction l with
      | nil => rfl
      | cons a l ih => simp only [cin, List.map_cons, List.flatten_cons, List.length_append, List.length_cons] at ih ⊢; rw [ih]; simp [inC]; omega
    have hcell : ∀ j, j < 4 → w.cell? ⟨g, k * 4 + j, none⟩ = (inC xs[k])[j]? := fun j hj => by
      rw [h.cellAt (k * 4 + j) (by omega)]
      conv => lhs; rw [e]
      rw [cin_app, List.getElem?_append_right (by rw [hl, List.length_take]; omega), hl, List.length_take, show k * 4 + j - min k xs.length * 4 = j by omega]
      show ((xs[k] :: xs.drop (k + 1)).map inC).flatten[j]? = _
      rw [List.map_cons, List.flatten_cons, List.getElem?_append_left (by simp [inC]; omega)]
    rw [Nat.zero_add]
    exact ⟨hcell 0 (by omega), hcell 1 (by omega), hcell 2 (by omega), hcell 3 (by omega)⟩
def fkL (w : Nat) (i : Nat) : List In := (List.range i).map fun (j : Nat) => ⟨9, (j : Int), if j = w then 2 else 1, 0⟩
def jnL (j : Nat) : List In := ((List.range j).map fun (i : Nat) => ([⟨10, 1, (i : Int), 0⟩, ⟨2, 2, 2, 1⟩] : List In)).flatten
theorem fkL_succ (w i : Nat) : fkL w (i + 1) = fkL w i ++ [⟨9, (i : Int), if i = w then 2 else 1, 0⟩] := by simp [fkL, List.range_succ]
theorem jnL_succ (i : Nat) : jnL (i + 1) = jnL i ++ [⟨10, 1, (i : Int), 0⟩, ⟨2, 2, 2, 1⟩] := by simp [jnL, List.range_succ]
theorem fkL_len (w i : Nat) : (fkL w i).length = i := by simp [fkL]
theorem jnL_len : ∀ i, (jnL i).length = 2 * i
  | 0 => rfl
  | i + 1 => by rw [jnL_succ, List.length_append, jnL_len i]; simp; omega
theorem joins_code : ∀ k, k < 4 → 1 ≤ k → ∀ w, w < k → ∀ j, j < k + 1 → checkF (joinsP k w j) = 0 := by decide +kernel
theorem joins_run (k w j : Nat) (h4 : k < 4) (h1 : 1 ≤ k) (hw : w < k) (hj : j < k + 1) (fv : Value) (W : World) (hT : Tab W) (hF : SlF W fv (joinsP k w j).fs) : Calls Tryd.prog 12 #[.agg #[fv, .int .i64 0, .int .i64 1, .int .i64 30], .int .i64 5, .int .i64 200] W fun e w' =>
    ∃ ra rc ua un uc sa sn sc, ∃ h v st : Int, e = .returned (.tuple #[.agg #[.int .i64 h, .int .i64 v, .slice ra (k + 1) rc, .slice ua un uc, .slice sa sn sc, .int .i64 st, .int .i64 k, .bool false], .int .i64 0]) ∧ Below W.heap.size W w' ∧ (w < j → h = 2 ∧ v = 0) ∧ (¬ w < j → h = 1 ∧ v = 5 * j) := by
  have hB := joins_all k h4 h1 w hw j hj
  unfold joinsB at hB
  simp only [Bool.and_eq_true, Bool.not_eq_true', decide_eq_true_eq] at hB
  obtain ⟨⟨⟨o1, o2⟩, o3⟩, o4⟩ := hB
  have hl : (joinsP k w j).fs.length ≤ 1000000 ∧ ∀ f ∈ (joinsP k w j).fs, f.length ≤ 1000000 := by
    have hok := ok_of_check (joins_code k h4 h1 w hw j hj)
    exact ⟨by have := hok.n1; omega, fun f hf => by have := (hok.fn f hf).2.1; omega⟩
  refine (Run_any (joinsP k w j) fv 5 200 W hT hF hl.1 hl.2).mono ?_
  intro e w' hq
  obtain ⟨ra, rc, ua, uc, sa, sc, he, hb, -, -, -⟩ := hq.good (M := 200) (by decide) (joins_code k h4 h1 w hw j hj) o1
  have hran : (ran0 (joinsP k w j) 200 5).length = k + 1 := by
    unfold ran0
    rw [putR_length]
    exact congrArg (· + 1) o2
  rw [hran, show (ev0 (joinsP k w j) 200 5).1.forks = k from o3] at he
  refine ⟨ra, rc, ua, _, uc, sa, _, sc, _, _, _, he, hb, fun h => ?_, fun h => ?_⟩
  · rw [if_pos h] at o4
    simpa using o4
  · rw [if_neg h] at o4
    simpa using o4
theorem cin_new (w : World) (cs : Array Value) (T : TypeId) (xs : List In) (h : cs.toList = cin xs) : ∀ j u, (cin xs)[j]? = some u → (w.alloc (.cells cs T)).cell? ((⟨w.heap.size, 0, none⟩ : Addr).add j) = some u := by
  intro j u hj
  have e : (⟨w.heap.size, 0, none⟩ : Addr).add j = ⟨w.heap.size, j, none⟩ := by simp [Addr.add]; intro h; exact h.symm
  rw [e, cell_of_row _ _ _ _ _ _ (heap_alloc_new _ _), ← Array.getElem?_toList, h, hj]
theorem joins_lies {w0 wL : World} {k w j g cap : Nat} (ho : wL.ownsRow w0.heap.size 54 4 (.slice (some ⟨g, 0, none⟩) (k + 2 * j + 1) cap) (k + 2 * j + 1) (cin (fkL w k ++ jnL j ++ [⟨15, 2, 0, 0⟩]))) :
    SlF (allocs wL [.cells #[.int .i64 15, .int .i64 0, .int .i64 0, .int .i64 0] 54, .cells #[.int .i64 5, .int .i64 0, .int .i64 0, .int .i64 7, .int .i64 15, .int .i64 0, .int .i64 0, .int .i64 0] 54, .cells #[.slice (some ⟨g, 0, none⟩) (k + 2 * j + 1) cap, .slice (some ⟨wL.heap.size, 0, none⟩) 1 1, .slice (some ⟨wL.heap.size + 1, 0, none⟩) 2 2] 55, .cells #[.slice (some ⟨wL.heap.size + 2, 0, none⟩) 3 3, .int .i64 0, .int .i64 1, .int .i64 30] 24]) (.slice (some ⟨wL.heap.size + 2, 0, none⟩) 3 3) (joinsP k w j).fs := by
  have hlen : (fkL w k ++ jnL j ++ [(⟨15, 2, 0, 0⟩ : In)]).length = k + 2 * j + 1 := by simp [fkL_len, jnL_len]; omega
  have hI : SlI wL (.slice (some ⟨g, 0, none⟩) (k + 2 * j + 1) cap) (fkL w k ++ jnL j ++ [⟨15, 2, 0, 0⟩]) := own_slI7 (base := w0.heap.size) (by rw [hlen]; exact ho)
  have hbel := allocs_below [.cells #[.int .i64 15, .int .i64 0, .int .i64 0, .int .i64 0] 54, .cells #[.int .i64 5, .int .i64 0, .int .i64 0, .int .i64 7, .int .i64 15, .int .i64 0, .int .i64 0, .int .i64 0] 54, .cells #[.slice (some ⟨g, 0, none⟩) (k + 2 * j + 1) cap, .slice (some ⟨wL.heap.size, 0, none⟩) 1 1, .slice (some ⟨wL.heap.size + 1, 0, none⟩) 2 2] 55, .cells #[.slice (some ⟨wL.heap.size + 2, 0, none⟩) 3 3, .int .i64 0, .int .i64 1, .int .i64 30] 24] wL wL (Below.refl _ _)
  have a0 := allocs_at [.cells #[.int .i64 15, .int .i64 0, .int .i64 0, .int .i64 0] 54, .cells #[.int .i64 5, .int .i64 0, .int .i64 0, .int .i64 7, .int .i64 15, .int .i64 0, .int .i64 0, .int .i64 0] 54, .cells #[.slice (some ⟨g, 0, none⟩) (k + 2 * j + 1) cap, .slice (some ⟨wL.heap.size, 0, none⟩) 1 1, .slice (some ⟨wL.heap.size + 1, 0, none⟩) 2 2] 55, .cells #[.slice (some ⟨wL.heap.size + 2, 0, none⟩) 3 3, .int .i64 0, .int .i64 1, .int .i64 30] 24] wL
  have h0 := a0 0 _ rfl
  have h1 := a0 1 _ rfl
  have h2 := a0 2 _ rfl
  have hI2 := hI.still (still_of_below hbel)
  generalize allocs wL _ = wN at *
  refine ⟨_, _, rfl, fun i hi => ?_⟩
  have hi2 : i < 3 := hi
  rcases (by omega : i = 0 ∨ i = 1 ∨ i = 2) with rfl | rfl | rfl
  · exact ⟨_, 0, _, rfl, by rw [cell_of_row _ _ _ _ _ _ h2]; rfl, hI2⟩
  · exact ⟨_, 0, _, rfl, by rw [cell_of_row _ _ _ _ _ _ h2]; rfl, slI_blk h0 rfl⟩
  · exact ⟨_, 0, _, rfl, by rw [cell_of_row _ _ _ _ _ _ h2]; rfl, slI_blk h1 rfl⟩
end Go.Proofs.YtpmapdialjdcbaaDoor
namespace Go.Proofs.YtpmapdialjdcbaaDoor
open Go.RowKit
open C2 (In Pr SlF SlI InsAt Tab BoxedP still_of_below below_then below_alloc Still)
open K6 (Ky)
open V5 (checkF SlN)

def hdT (m : Int) : List In := [⟨1, 1, m, 0⟩, ⟨4, 2, 0, 1⟩]
def fkT (j : Int) (i : Nat) : List In := (List.range i).map fun (x : Nat) => ⟨9, (x : Int), j, 2⟩
def jnT (i : Nat) : List In := ((List.range i).map fun (x : Nat) => ([⟨10, 3, (x : Int), 0⟩, ⟨2, 0, 0, 3⟩] : List In)).flatten
theorem fkT_succ (j : Int) (i : Nat) : fkT j (i + 1) = fkT j i ++ [⟨9, (i : Int), j, 2⟩] := by simp [fkT, List.range_succ]
theorem jnT_succ (i : Nat) : jnT (i + 1) = jnT i ++ [⟨10, 3, (i : Int), 0⟩, ⟨2, 0, 0, 3⟩] := by simp [jnT, List.range_succ]
theorem treeF_eq (w : Nat) (m : Int) (j : Nat) : treeF w m j = hdT m ++ fkT j w ++ jnT w ++ [⟨15, 0, 0, 0⟩] := rfl
theorem fkT_len (j : Int) (i : Nat) : (fkT j i).length = i := by simp [fkT]
theorem jnT_len : ∀ i, (jnT i).length = 2 * i
  | 0 => rfl
  | i + 1 => by rw [jnT_succ, List.length_append, jnT_len i]; simp; omega
theorem treeF_len (w : Nat) (m : Int) (j : Nat) : (treeF w m j).length = 3 + 3 * w := by
  rw [treeF_eq]
  simp [hdT, fkT_len, jnT_len]
  omega
/-- a fork's function turned -/
def turnI (j : Int) (x : In) : In := if x.o = 9 then ⟨x.o, x.a, j, x.c⟩ else x
theorem turn_tree {w : Nat} (h1 : 1 ≤ w) (h3 : w ≤ 3) (m : Int) (j : Nat) : (treeF w m 1).map (turnI j) = treeF w m j := by
  rcases wide_cases h1 h3 with rfl | rfl | rfl <;> rfl
/-- the first so many turned -/
def turnL (j : Int) (F : List In) (i : Nat) : List In := (F.take i).map (turnI j) ++ F.drop i
theorem turnL_zero (j : Int) (F : List In) : turnL j F 0 = F := by simp [turnL]
theorem turnL_all (j : Int) (F : List In) : turnL j F F.length = F.map (turnI j) := by simp [turnL]
theorem turnL_len (j : Int) (F : List In) (i : Nat) : (turnL j F i).length = F.length := by
  simp only [turnL, List.length_append, List.length_map, List.length_take, List.length_drop]
  omega
theorem turnL_at (j : Int) (F : List In) {i : Nat} (h : i < F.length) : turnL j F i = (F.take i).map (turnI j) ++ F[i] :: F.drop (i + 1) := by
  rw [turnL, List.drop_eq_getElem_cons h]
theorem turnL_succ (j : Int) (F : List In) {i : Nat} (h : i < F.length) : turnL j F (i + 1) = (F.take i).map (turnI j) ++ turnI j F[i] :: F.drop (i + 1) := by
  rw [turnL, List.take_succ_eq_append_getElem h, List.map_append, List.append_assoc]
  rfl
/-- a row that was laid whole is one's own -/
theorem own_blk7 {w : World} {base g n s : Nat} {T : TypeId} {cs : Array Value} {xs : List Value} (h : w.heap[g]? = some (.cells cs T (0, 0))) (hb : base ≤ g) (hx : cs.toList = xs) (hn : xs.length = n * s) (h1 : n ≤ 1000) : w.ownsRow base T s (.slice (some ⟨g, 0, none⟩) n n) n xs := by
  have hcs : cs.size = n * s := by rw [← Array.length_toList, hx, hn]
  exact ⟨hn, .inr ⟨g, n, cs, rfl, hb, h, Nat.le_refl _, by unfold maxLen; omega, hcs, by rw [hx, ← hn, List.take_length]⟩⟩
theorem cin_len (l : List In) : (cin l).length = l.length * 4 := by
  induction l with
  | nil => rfl
  | cons a l ih => simp only [cin, List.map_cons, List.flatten_cons, List.length_append, List.length_cons] at ih ⊢; rw [ih]; simp [inC]; omega
theorem cin_mid (A : List In) (x : In) (Y : List In) : cin (A ++ x :: Y) = cin A ++ (inC x ++ cin Y) := by simp [cin]
/-- an instruction's second operand turned -/
theorem cin_setB (A : List In) (x : In) (Y : List In) (b : Int) : (cin (A ++ x :: Y)).set (A.length * 4 + 2) (.int .i64 b) = cin (A ++ { x with b := b } :: Y) := by
  rw [cin_mid, cin_mid, List.set_append_right _ _ (by rw [cin_len]; omega), cin_len, show A.length * 4 + 2 - A.length * 4 = 2 by omega]
  rfl
/-- rows of instructions stay -/
def KeepI (w w' : World) : Prop := ∀ (g : Nat) (cs : Array Value) (fz : Nat × Nat), w.heap[g]? = some (.cells cs 54 fz) → w'.heap[g]? = w.heap[g]?
theorem KeepI.trans {a b c : World} (h : KeepI a b) (k : KeepI b c) : KeepI a c := fun g cs fz e => by
  have e1 := h g cs fz e
  rw [k g cs fz (by rw [e1]; exact e), e1]
theorem KeepI.below {a b : World} (h : Below a.heap.size a b) : KeepI a b := fun g _ _ e => h.block g (lt_of_block e)
theorem KeepI.grown {a b : World} {B T s n : Nat} {v : Value} {xs : List Value} (ho : a.ownsRow B T s v n xs) (hne : T ≠ 54) (hg : a.grownBy b v.ownBlock) : KeepI a b := fun g _ _ e => hg.block g (lt_of_block e) fun e2 => own_typ ho e hne e2.symm
theorem KeepI.set {a : World} {b : Nat} {cs : Array Value} {T : TypeId} {fz : Nat × Nat} (hb : a.heap[b]? = some (.cells cs T fz)) (hne : T ≠ 54) (f : Nat) (v : Value) : KeepI a (a.setCell ⟨b, f, none⟩ v) := fun g _ _ e => Below.heap_setCell _ _ _ _ (by
  rintro rfl
  rw [hb] at e
  simp at e
  exact hne e.2.1)
theorem own_keep {w w' : World} {B n : Nat} {v : Value} {xs : List Value} (h : w.ownsRow B 54 4 v n xs) (hk : KeepI w w') : w'.ownsRow B 54 4 v n xs := by
  refine own_same7 h fun g hg => ?_
  rcases h.2 with ⟨rfl, _⟩ | ⟨g1, c1, cur1, rfl, _, hg1, _⟩
  · simp [Value.ownBlock] at hg
  · simp [Value.ownBlock] at hg
    subst hg
    exact hk _ _ _ hg1
/-- functions in rows of one's own -/
structure FO (B : Nat) (w : World) (vals : List Value) (fs : List (List In)) : Prop where
  len : vals.length = fs.length
  own : ∀ i (h1 : i < vals.length) (h2 : i < fs.length), w.ownsRow B 54 4 vals[i] fs[i].length (cin fs[i])
theorem FO.keep {B : Nat} {w w' : World} {vals : List Value} {fs : List (List In)} (h : FO B w vals fs) (hk : KeepI w w') : FO B w' vals fs := ⟨h.len, fun i h1 h2 => own_keep (h.own i h1 h2) hk⟩
theorem FO.snoc {B : Nat} {w : World} {vals : List Value} {fs : List (List In)} (h : FO B w vals fs) {v : Value} {f : List In} (hf : w.ownsRow B 54 4 v f.length (cin f)) : FO B w (vals ++ [v]) (fs ++ [f]) := by
  refine ⟨by simp [h.len], fun i h1 h2 => ?_⟩
  by_cases hi : i < vals.length
  · have h3 : i < fs.length := by rw [← h.len]; exact hi
    have e1 : (vals ++ [v])[i] = vals[i] := List.getElem_append_left hi
    have e2 : (fs ++ [f])[i] = fs[i] := List.getElem_append_left h3
    rw [e1, e2]
    exact h.own i hi h3
  · have hlen := h.len
    obtain rfl : i = vals.length := by simp at h1; omega
    have e1 : (vals ++ [v])[vals.length] = v := by simp
    have e2 : (fs ++ [f])[vals.length]'h2 = f := by simp [hlen]
    rw [e1, e2]
    exact hf
theorem FO.slF {B : Nat} {w : World} {vals : List Value} {fs : List (List In)} (h : FO B w vals fs) {fg fc : Nat} (hr : w.ownsRow B 55 1 (.slice (some ⟨fg, 0, none⟩) fs.length fc) fs.length vals) : SlF w (.slice (some ⟨fg, 0, none⟩) fs.length fc) fs := by
  refine ⟨_, _, rfl, fun k hk => ?_⟩
  have hk2 : k < vals.length := by rw [h.len]; exact hk
  refine ⟨fg, 0, vals[k], rfl, ?_, own_slI7 (h.own k hk2 hk)⟩
  rw [Nat.zero_add, hr.cellAt k (by omega)]
  simp [hk2]
/-- the functions of a tree, one by one -/
def gF (w d : Nat) (m : Int) (j : Nat) : List In := if j = d ∧ j ≠ 0 then [⟨15, 0, 0, 0⟩] else treeF w m (j + 1)
def fsT (w d : Nat) (m : Int) (n : Nat) : List (List In) := (List.range n).map (gF w d m)
theorem fsT_succ (w d : Nat) (m : Int) (n : Nat) : fsT w d m (n + 1) = fsT w d m n ++ [gF w d m n] := by simp [fsT, List.range_succ]
theorem fsT_tree {w d : Nat} (hd : 1 ≤ d) (m : Int) : fsT w d m (d + 1) = (treeP w d m).fs := by
  rw [fsT_succ]
  have e1 : gF w d m d = [⟨15, 0, 0, 0⟩] := by unfold gF; rw [if_pos ⟨rfl, by omega⟩]
  have e2 : fsT w d m d = (List.range d).map fun j => treeF w m (j + 1) := by
    unfold fsT
    refine List.map_congr_left fun j hj => ?_
    have := List.mem_range.1 hj
    unfold gF
    rw [if_neg (by omega)]
  rw [e1, e2]
  rfl
theorem fsT_one {w : Nat} (m : Int) : fsT w 0 m 1 = [treeF w m 1] := rfl
theorem turn_cell (j : Int) (F : List In) {i : Nat} (h : i < F.length) {k : Nat} (hk : k < 4) : (cin (turnL j F i))[i * 4 + k]? = (inC F[i])[k]? := by
  have hA : ((F.take i).map (turnI j)).length = i := by rw [List.length_map, List.length_take]; omega
  rw [turnL_at j F h, cin_mid, List.getElem?_append_right (by rw [cin_len, hA]; omega), cin_len, hA, show i * 4 + k - i * 4 = k by omega, List.getElem?_append_left (by simp [inC]; omega)]
theorem turn_set (j : Int) (F : List In) {i : Nat} (h : i < F.length) (h9 : F[i].o = 9) : (cin (turnL j F i)).set (i * 4 + 2) (.int .i64 j) = cin (turnL j F (i + 1)) := by
  have hA : ((F.take i).map (turnI j)).length = i := by rw [List.length_map, List.length_take]; omega
  have e := cin_setB ((F.take i).map (turnI j)) F[i] (F.drop (i + 1)) j
  rw [hA] at e
  rw [turnL_at j F h, e, turnL_succ j F h]
  have e2 : turnI j F[i] = { F[i] with b := j } := by unfold turnI; rw [if_pos h9]
  rw [e2]
theorem turn_no (j : Int) (F : List In) {i : Nat} (h : i < F.length) (h9 : F[i].o ≠ 9) : turnL j F (i + 1) = turnL j F i := by
  rw [turnL_at j F h, turnL_succ j F h]
  have e2 : turnI j F[i] = F[i] := by unfold turnI; rw [if_neg h9]
  rw [e2]
theorem own_mono7 {w : World} {B B' e s n : Nat} {v : Value} {xs : List Value} (h : w.ownsRow B e s v n xs) (hb : B' ≤ B) : w.ownsRow B' e s v n xs := by
  refine ⟨h.1, ?_⟩
  rcases h.2 with h0 | ⟨g, cap, cur, h1, h2, h3⟩
  · exact .inl h0
  · exact .inr ⟨g, cap, cur, h1, Nat.le_trans hb h2, h3⟩
/-- one function more -/
theorem tree_more {w wv w7 : World} {fg0 fg fc fg' fc' dd D : Nat} {vals : List Value} {fs : List (List In)} {v : Value} {f : List In} {F : List Value} {g7 cap7 N : Nat} (hbw : w.heap.size ≤ fg0)
    (hbx : wv.heap[fg0 + 1]? = some (.cells #[.slice (some ⟨fg, 0, none⟩) dd fc, .int .i64 0, .int .i64 D, .int .i64 100] 24 (0, 0))) (hFr : wv.ownsRow w.heap.size 55 1 (.slice (some ⟨fg, 0, none⟩) dd fc) dd vals) (hFo : FO w.heap.size wv vals fs) (hv : wv.ownsRow w.heap.size 54 4 v f.length (cin f)) (hf : wv.ownsRow w.heap.size 54 4 (.slice (some ⟨g7, 0, none⟩) N cap7) N F) (hB : Below w.heap.size w wv)
    (hR : wv.heap[w.heap.size]? = some (.cells #[.slice none 0 0, .int .i64 0, .int .i64 0, .int .i64 0] 24 (0, 0)))
    (hg : wv.grownBy w7 (Value.slice (some ⟨fg, 0, none⟩) dd fc).ownBlock) (ho : w7.ownsRow w.heap.size 55 1 (.slice (some ⟨fg', 0, none⟩) (dd + 1) fc') (dd + 1) (vals ++ [v])) :
    w7.cell? ⟨fg0 + 1, 0, none⟩ = some (.slice (some ⟨fg, 0, none⟩) dd fc) ∧ w7.frozen? ⟨fg0 + 1, 0, none⟩ = false ∧
    (w7.setCell ⟨fg0 + 1, 0, none⟩ (.slice (some ⟨fg', 0, none⟩) (dd + 1) fc')).heap[fg0 + 1]? = some (.cells #[.slice (some ⟨fg', 0, none⟩) (dd + 1) fc', .int .i64 0, .int .i64 D, .int .i64 100] 24 (0, 0)) ∧
    (w7.setCell ⟨fg0 + 1, 0, none⟩ (.slice (some ⟨fg', 0, none⟩) (dd + 1) fc')).ownsRow w.heap.size 55 1 (.slice (some ⟨fg', 0, none⟩) (dd + 1) fc') (dd + 1) (vals ++ [v]) ∧
    FO w.heap.size (w7.setCell ⟨fg0 + 1, 0, none⟩ (.slice (some ⟨fg', 0, none⟩) (dd + 1) fc')) (vals ++ [v]) (fs ++ [f]) ∧
    (w7.setCell ⟨fg0 + 1, 0, none⟩ (.slice (some ⟨fg', 0, none⟩) (dd + 1) fc')).ownsRow w.heap.size 54 4 (.slice (some ⟨g7, 0, none⟩) N cap7) N F ∧
    Below w.heap.size w (w7.setCell ⟨fg0 + 1, 0, none⟩ (.slice (some ⟨fg', 0, none⟩) (dd + 1) fc')) ∧
    (w7.setCell ⟨fg0 + 1, 0, none⟩ (.slice (some ⟨fg', 0, none⟩) (dd + 1) fc')).heap[w.heap.size]? = some (.cells #[.slice none 0 0, .int .i64 0, .int .i64 0, .int .i64 0] 24 (0, 0)) := by
  have hb7 := (hg.block (fg0 + 1) (lt_of_block hbx) (fun e => own_typ hFr hbx (by decide) e.symm)).trans hbx
  have hK : KeepI wv (w7.setCell ⟨fg0 + 1, 0, none⟩ (.slice (some ⟨fg', 0, none⟩) (dd + 1) fc')) := (KeepI.grown hFr (by decide) hg).trans (KeepI.set hb7 (by decide) _ _)
  have hR7 := (hg.block w.heap.size (lt_of_block hR) (fun e => own_typ hFr hR (by decide) e.symm)).trans hR
  refine ⟨cell_of_row _ _ _ _ _ _ hb7, frozen_of_row _ _ _ _ _ hb7, ?_, own_same7 ho fun g hgg => Below.heap_setCell _ _ _ _ (by rintro rfl; exact own_typ ho hb7 (by decide) hgg), (hFo.snoc hv).keep hK, own_keep hf hK, ?_, (Below.heap_setCell _ _ _ _ (by simp only; omega)).trans hR7⟩
  · rw [heap_setCell_same _ _ _ _ _ _ hb7]; rfl
  · exact ((hB.grown hg hB.size fun k hk => (hFr.lt k hk).1).setCell (p := ⟨fg0 + 1, 0, none⟩) (by simp only; omega) _)
theorem infoSl7 : (Tryd.prog.info? 55).map (fun i => (i.zero, i.size, i.bytes)) = some (some (.slice none 0 0), 1, 24) := by kernel_rfl
def putP (w : World) (b : Nat) (v0 v1 v2 v3 : Value) : World := (((w.setCell ⟨b, 0, none⟩ v0).setCell ⟨b, 1, none⟩ v1).setCell ⟨b, 2, none⟩ v2).setCell ⟨b, 3, none⟩ v3
theorem putP_other {w : World} {b k : Nat} (hk : k ≠ b) (v0 v1 v2 v3 : Value) : (putP w b v0 v1 v2 v3).heap[k]? = w.heap[k]? := by
  unfold putP
  rw [Below.heap_setCell _ _ _ _ hk, Below.heap_setCell _ _ _ _ hk, Below.heap_setCell _ _ _ _ hk, Below.heap_setCell _ _ _ _ hk]
theorem putP_box {w : World} {b : Nat} {T : TypeId} {x0 x1 x2 x3 : Value} (h : w.heap[b]? = some (.cells #[x0, x1, x2, x3] T (0, 0))) (v0 v1 v2 v3 : Value) : (putP w b v0 v1 v2 v3).heap[b]? = some (.cells #[v0, v1, v2, v3] T (0, 0)) := by
  unfold putP
  have h0 : (w.setCell ⟨b, 0, none⟩ v0).heap[b]? = some (.cells #[v0, x1, x2, x3] T (0, 0)) := by rw [heap_setCell_same _ _ _ _ _ _ h]; rfl
  have h1 : ((w.setCell ⟨b, 0, none⟩ v0).setCell ⟨b, 1, none⟩ v1).heap[b]? = some (.cells #[v0, v1, x2, x3] T (0, 0)) := by rw [heap_setCell_same _ _ _ _ _ _ h0]; rfl
  have h2 : (((w.setCell ⟨b, 0, none⟩ v0).setCell ⟨b, 1, none⟩ v1).setCell ⟨b, 2, none⟩ v2).heap[b]? = some (.cells #[v0, v1, v2, x3] T (0, 0)) := by rw [heap_setCell_same _ _ _ _ _ _ h1]; rfl
  rw [heap_setCell_same _ _ _ _ _ _ h2]; rfl
theorem putP_below {S : Nat} {a w : World} {b : Nat} (h : Below S a w) (hb : S ≤ b) (v0 v1 v2 v3 : Value) : Below S a (putP w b v0 v1 v2 v3) := (((h.setCell (p := ⟨b, 0, none⟩) hb v0).setCell (p := ⟨b, 1, none⟩) hb v1).setCell (p := ⟨b, 2, none⟩) hb v2).setCell (p := ⟨b, 3, none⟩) hb v3
end Go.Proofs.YtpmapdialjdcbaaDoor
namespace Go.Proofs.YtpmapdialjdcbaaDoor
open Go.RowKit
open C2 (In Pr SlF SlI InsAt Tab BoxedP still_of_below below_then below_alloc Still)
open K6 (Ky)
open V5 (checkF SlN)

theorem grown7 {w a b : World} (h : Below w.heap.size w a) {v : Value} {e : TypeId} {s n : Nat} {xs : List Value} (ho : a.ownsRow w.heap.size e s v n xs) (hg : a.grownBy b v.ownBlock) : Below w.heap.size w b := h.grown hg h.size fun k hk => (ho.lt k hk).1
set_option maxHeartbeats 2000000 in
set_option maxRecDepth 8000 in
theorem joins_walk (n wg js : Int) (w : World) (hT : Tab w) : Calls Tryd.prog 8 #[.int .i64 n, .int .i64 wg, .int .i64 js] w fun e w' => e = .returned (.bool true) ∧ Below w.heap.size w w' := by
  obtain ⟨i0, hi, hz0, hz1, hz2⟩ := info_parts infoIns7
  obtain ⟨m, hm⟩ : ∃ m : Nat, n % 3 = m := ⟨(n % 3).toNat, by omega⟩
  have hm3 : m < 3 := by omega
  obtain ⟨ww, hww⟩ : ∃ x : Nat, wg % (1 + (m : Int)) = x := ⟨(wg % (1 + (m : Int))).toNat, by have := Int.emod_nonneg wg (show (1 + (m : Int)) ≠ 0 by omega); omega⟩
  have hw3 : ww < m + 1 := by have := Int.emod_lt_of_pos wg (show (0 : Int) < 1 + (m : Int) by omega); omega
  obtain ⟨jj, hjj⟩ : ∃ x : Nat, js % (1 + (m : Int) + 1) = x := ⟨(js % (1 + (m : Int) + 1)).toNat, by have := Int.emod_nonneg js (show (1 + (m : Int) + 1) ≠ 0 by omega); omega⟩
  have hj3 : jj < m + 2 := by have := Int.emod_lt_of_pos js (show (0 : Int) < 1 + (m : Int) + 1 by omega); omega
  have q1 := fun w => V1.place_any n 3 w (by decide) (by decide)
  have q2 := fun w => V1.place_any wg (1 + (m : Int)) w (by omega) (by omega)
  have q3 := fun w => V1.place_any js (1 + (m : Int) + 1) w (by omega) (by omega)
  rw [hm] at q1
  rw [hww] at q2
  rw [hjj] at q3
  have HRUN : Hid (∀ W fv, Tab W → SlF W fv (joinsP (m + 1) ww jj).fs → Calls Tryd.prog 12 #[.agg #[fv, .int .i64 0, .int .i64 1, .int .i64 30], .int .i64 5, .int .i64 200] W fun e w' =>
    ∃ ra rc ua un uc sa sn sc, ∃ h v st : Int, e = .returned (.tuple #[.agg #[.int .i64 h, .int .i64 v, .slice ra (m + 1 + 1) rc, .slice ua un uc, .slice sa sn sc, .int .i64 st, .int .i64 ((m + 1 : Nat) : Int), .bool false], .int .i64 0]) ∧ Below W.heap.size W w' ∧ (ww < jj → h = 2 ∧ v = 0) ∧ (¬ ww < jj → h = 1 ∧ v = 5 * jj)) := fun W fv hT hF => joins_run (m + 1) ww jj (by omega) (by omega) hw3 hj3 fv W hT hF
  clear hm hww hjj
  go_enter Tryd.func8, Tryd.ntmps8
  go_wp2_with fail
  refine (q1 _).mono ?_
  rintro e w0 ⟨rfl, rfl⟩
  go_wp2_with fail
  refine (q2 _).mono ?_
  rintro e w1 ⟨rfl, rfl⟩
  go_wp2_with fail
  go_loopw [9, 10] (fun fv iv wx => ∃ i : Nat, i ≤ m + 1 ∧ iv = .int .i64 i ∧ wx.ownsRow w1.heap.size 54 4 fv i (cin (fkL ww i)) ∧ Below w1.heap.size w1 wx) (fun _ iv _ => m + 1 - (intOf iv).toNat)
  case atStart => exact ⟨0, by omega, rfl, World.ownsRow_nil _ _ _ _, Below.refl _ _⟩
  case round =>
    obtain ⟨i, hile, rfl, hO, hB⟩ := hrel
    by_cases hlt : i < m + 1
    · have hlti : (i : Int) < 1 + (m : Int) := by omega
      have HS : Hid (cin (fkL ww (i + 1)) = cin (fkL ww i) ++ cin [⟨9, (i : Int), if i = ww then 2 else 1, 0⟩]) := by show _ = _; rw [fkL_succ, cin_app]
      by_cases hew : i = ww
      · have heb : ((i : Int) == (ww : Int)) = true := by simp [hew]
        rw [if_pos hew] at HS
        clear hew
        go_wp2_with (at_builtin; refine wpList_append_own _ rfl _ _ 55 rfl w1.heap.size 54 i0 _ 4 32 Tryd.underlying55 hi hz0 hz1 hz2 rfl (by decide) _ _ _ rfl (hO.alloc _) ⟨wr.heap.size, 0, none⟩ 1 1 (cin [⟨9, (i : Int), 2, 0⟩]) rfl rfl ?c1 ?c2 ?c3 ?c4 ?c5 ?_)
        case c1 => exact cin_new _ _ _ _ rfl
        case c2 => exact cin_one _
        case c3 => unfold maxLen; omega
        case c4 => omega
        case c5 => have := hB.size; simp; omega
        intro v' w3 hown' hgrow _
        have hB3 := grown7 (below_alloc hB _) (hO.alloc _) hgrow
        clear hgrow hO
        go_wp2_with fail
        go_roundw
        case rel => exact ⟨i + 1, by omega, by go_num, by rw [HS.out]; exact hown', hB3⟩
        case measure => simp [intOf]; omega
      · have heb : ((i : Int) == (ww : Int)) = false := by simp; omega
        rw [if_neg hew] at HS
        clear hew
        go_wp2_with (at_builtin; refine wpList_append_own _ rfl _ _ 55 rfl w1.heap.size 54 i0 _ 4 32 Tryd.underlying55 hi hz0 hz1 hz2 rfl (by decide) _ _ _ rfl (hO.alloc _) ⟨wr.heap.size, 0, none⟩ 1 1 (cin [⟨9, (i : Int), 1, 0⟩]) rfl rfl ?c1 ?c2 ?c3 ?c4 ?c5 ?_)
        case c1 => exact cin_new _ _ _ _ rfl
        case c2 => exact cin_one _
        case c3 => unfold maxLen; omega
        case c4 => omega
        case c5 => have := hB.size; simp; omega
        intro v' w3 hown' hgrow _
        have hB3 := grown7 (below_alloc hB _) (hO.alloc _) hgrow
        clear hgrow hO
        go_wp2_with fail
        go_roundw
        case rel => exact ⟨i + 1, by omega, by go_num, by rw [HS.out]; exact hown', hB3⟩
        case measure => simp [intOf]; omega
    · obtain rfl : i = m + 1 := by omega
      have hnl : ¬ ((m + 1 : Nat) : Int) < 1 + (m : Int) := by omega
      clear hlt hile
      go_wp2_with fail
      refine (q3 _).mono ?_
      rintro e wB ⟨rfl, rfl⟩
      go_wp2_with fail
      go_loopw [9, 13] (fun fv iv wx => ∃ i : Nat, i ≤ jj ∧ iv = .int .i64 i ∧ wx.ownsRow w1.heap.size 54 4 fv (m + 1 + 2 * i) (cin (fkL ww (m + 1) ++ jnL i)) ∧ Below w1.heap.size w1 wx) (fun _ iv _ => jj - (intOf iv).toNat)
      case atStart => exact ⟨0, by omega, rfl, by simpa [jnL] using hO, hB⟩
      case round =>
        obtain ⟨i, hile, rfl, hO2, hB2⟩ := hrel
        by_cases hlt : i < jj
        · have hlti : (i : Int) < (jj : Int) := by omega
          have HS : Hid (cin (fkL ww (m + 1) ++ jnL (i + 1)) = cin (fkL ww (m + 1) ++ jnL i) ++ cin [⟨10, 1, (i : Int), 0⟩, ⟨2, 2, 2, 1⟩]) := by show _ = _; rw [jnL_succ, ← List.append_assoc, cin_app]
          go_wp2_with (at_builtin; refine wpList_append_own _ rfl _ _ 55 rfl w1.heap.size 54 i0 _ 4 32 Tryd.underlying55 hi hz0 hz1 hz2 rfl (by decide) _ _ _ rfl (hO2.alloc _) ⟨wr.heap.size, 0, none⟩ 2 2 (cin [⟨10, 1, (i : Int), 0⟩, ⟨2, 2, 2, 1⟩]) rfl rfl ?c1 ?c2 ?c3 ?c4 ?c5 ?_)
          case c1 => exact cin_new _ _ _ _ rfl
          case c2 => exact cin_one _
          case c3 => unfold maxLen; omega
          case c4 => omega
          case c5 => have := hB2.size; simp; omega
          intro v' w3 hown' hgrow _
          have hB3 := grown7 (below_alloc hB2 _) (hO2.alloc _) hgrow
          rw [show m + 1 + 2 * i + 2 = m + 1 + 2 * (i + 1) by omega] at hown'
          clear hgrow hO2
          go_wp2_with fail
          go_roundw
          case rel => exact ⟨i + 1, by omega, by go_num, by rw [HS.out]; exact hown', hB3⟩
          case measure => simp [intOf]; omega
        · obtain rfl : i = jj := by omega
          clear hlt hile hO hB hnl
          go_wp2_with (at_builtin; refine wpList_append_own _ rfl _ _ 55 rfl w1.heap.size 54 i0 _ 4 32 Tryd.underlying55 hi hz0 hz1 hz2 rfl (by decide) _ _ _ rfl (hO2.alloc _) ⟨wr.heap.size, 0, none⟩ 1 1 (cin [⟨15, 2, 0, 0⟩]) rfl rfl ?c1 ?c2 ?c3 ?c4 ?c5 ?_)
          case c1 => exact cin_new _ _ _ _ rfl
          case c2 => exact cin_one _
          case c3 => unfold maxLen; omega
          case c4 => omega
          case c5 => have := hB2.size; simp; omega
          intro v' w3 hown' hgrow _
          have hB3 := grown7 (below_alloc hB2 _) (hO2.alloc _) hgrow
          clear hgrow hO2
          obtain ⟨g9, cap9, rfl, -, -⟩ := hown'.form (by omega)
          rw [← cin_app] at hown'
          have hL := joins_lies hown'
          have hbel := allocs_below [.cells #[.int .i64 15, .int .i64 0, .int .i64 0, .int .i64 0] 54, .cells #[.int .i64 5, .int .i64 0, .int .i64 0, .int .i64 7, .int .i64 15, .int .i64 0, .int .i64 0, .int .i64 0] 54, .cells #[.slice (some ⟨g9, 0, none⟩) (m + 1 + 2 * i + 1) cap9, .slice (some ⟨w3.heap.size, 0, none⟩) 1 1, .slice (some ⟨w3.heap.size + 1, 0, none⟩) 2 2] 55, .cells #[.slice (some ⟨w3.heap.size + 2, 0, none⟩) 3 3, .int .i64 0, .int .i64 1, .int .i64 30] 24] w1 w3 hB3
          have HR := HRUN.out _ _ (hT.below hbel) hL
          go_wp2_with fail
          refine HR.mono ?_
          rintro e w5 ⟨ra, rc, ua, un, uc, sa, sn, sc, h, v, st, rfl, hb5, hl1, hl2⟩
          have hb6 := below_then hbel hb5
          clear HR hL hbel hb5 hown' hB3 hB2
          by_cases hwj : ww < i
          · obtain ⟨rfl, rfl⟩ := hl1 hwj
            have hwji : (ww : Int) < (i : Int) := by omega
            clear hl1 hl2
            go_wp2_with fail
            refine (awake_any _ (hT.below (below_alloc hb6 _))).mono ?_
            rintro e w7 ⟨rfl, hb7⟩
            go_wp2_with fail
            go_ret
            exact ⟨rfl, below_then (below_alloc hb6 _) hb7⟩
          · obtain ⟨rfl, rfl⟩ := hl2 hwj
            have hwji : ¬ (ww : Int) < (i : Int) := by omega
            clear hl1 hl2
            go_wp2_with fail
            refine (awake_any _ (hT.below (below_alloc hb6 _))).mono ?_
            rintro e w7 ⟨rfl, hb7⟩
            go_wp2_with fail
            go_ret
            exact ⟨rfl, below_then (below_alloc hb6 _) hb7⟩
end Go.Proofs.YtpmapdialjdcbaaDoor
namespace Go.Proofs.YtpmapdialjdcbaaDoor
open Go.RowKit
open C2 (In Pr SlF SlI InsAt Tab BoxedP still_of_below below_then below_alloc Still)
open K6 (Ky)
open V5 (checkF SlN)

set_option maxHeartbeats 4000000 in
set_option maxRecDepth 8000 in
theorem Tree_any (W D : Nat) (m : Int) (hW1 : 1 ≤ W) (hW3 : W ≤ 3) (hD : D ≤ 3) (w : World) : Calls Tryd.prog 20 #[.int .i64 W, .int .i64 D, .int .i64 m] w fun e w' => ∃ fv, e = .returned (.agg #[fv, .int .i64 0, .int .i64 D, .int .i64 100]) ∧ SlF w' fv (fsT W D m (D + 1)) ∧ Below w.heap.size w w' := by
  obtain ⟨i0, hi, hz0, hz1, hz2⟩ := info_parts infoIns7
  obtain ⟨s0, si, sz0, sz1, sz2⟩ := info_parts infoSl7
  have hO0 : ((w.alloc (.cells #[.slice none 0 0, .int .i64 0, .int .i64 0, .int .i64 0] 24)).alloc (.cells #[.int .i64 1, .int .i64 1, .int .i64 m, .int .i64 0, .int .i64 4, .int .i64 2, .int .i64 0, .int .i64 1] 54)).ownsRow w.heap.size 54 4 (.slice (some ⟨w.heap.size + 1, 0, none⟩) 2 2) 2 (cin (hdT m)) := own_blk7 (heap_alloc2_new _ _ _) (by omega) rfl rfl (by omega)
  have hB0 := below_alloc (below_alloc (Below.refl w.heap.size w) (.cells #[.slice none 0 0, .int .i64 0, .int .i64 0, .int .i64 0] 24)) (.cells #[.int .i64 1, .int .i64 1, .int .i64 m, .int .i64 0, .int .i64 4, .int .i64 2, .int .i64 0, .int .i64 1] 54)
  have hR0 := heap_alloc2_old w (.cells #[.slice none 0 0, .int .i64 0, .int .i64 0, .int .i64 0] 24) (.cells #[.int .i64 1, .int .i64 1, .int .i64 m, .int .i64 0, .int .i64 4, .int .i64 2, .int .i64 0, .int .i64 1] 54)
  go_enter Tryd.func20, Tryd.ntmps20
  go_wp2_with fail
  go_loopw [7, 8] (fun fv iv wx => ∃ i : Nat, i ≤ W ∧ iv = .int .i64 i ∧ wx.ownsRow w.heap.size 54 4 fv (2 + i) (cin (hdT m ++ fkT 1 i)) ∧ Below w.heap.size w wx ∧ wx.heap[w.heap.size]? = some (.cells #[.slice none 0 0, .int .i64 0, .int .i64 0, .int .i64 0] 24 (0, 0))) (fun _ iv _ => W - (intOf iv).toNat)
  case atStart => exact ⟨0, by omega, rfl, by simpa [fkT] using hO0, hB0, hR0⟩
  case round =>
    obtain ⟨i, hile, rfl, hO, hB, hR⟩ := hrel
    by_cases hlt : i < W
    · have hlti : (i : Int) < (W : Int) := by omega
      have HS : Hid (cin (hdT m ++ fkT 1 (i + 1)) = cin (hdT m ++ fkT 1 i) ++ cin [⟨9, (i : Int), 1, 2⟩]) := by show _ = _; rw [fkT_succ, ← List.append_assoc, cin_app]
      go_wp2_with (at_builtin; refine wpList_append_own _ rfl _ _ 55 rfl w.heap.size 54 i0 _ 4 32 Tryd.underlying55 hi hz0 hz1 hz2 rfl (by decide) _ _ _ rfl (hO.alloc _) ⟨wr.heap.size, 0, none⟩ 1 1 (cin [⟨9, (i : Int), 1, 2⟩]) rfl rfl ?c1 ?c2 ?c3 ?c4 ?c5 ?_)
      case c1 => exact cin_new _ _ _ _ rfl
      case c2 => exact cin_one _
      case c3 => unfold maxLen; omega
      case c4 => omega
      case c5 => have := hB.size; simp; omega
      intro v' w3 hown' hgrow _
      have hB3 := grown7 (below_alloc hB _) (hO.alloc _) hgrow
      have hRa : ∀ o, (wr.alloc o).heap[w.heap.size]? = some (.cells #[.slice none 0 0, .int .i64 0, .int .i64 0, .int .i64 0] 24 (0, 0)) := fun o => (Below.heap_alloc _ _ _ (lt_of_block hR)).trans hR
      have hR3 := (hgrow.block w.heap.size (lt_of_block (hRa _)) (fun e => own_typ hO hR (by decide) e.symm)).trans (hRa _)
      clear hgrow hO hRa hR hB
      go_wp2_with fail
      go_roundw
      case rel => exact ⟨i + 1, by omega, by go_num, by rw [HS.out]; exact hown', hB3, hR3⟩
      case measure => simp [intOf]; omega
    · obtain rfl : i = W := by omega
      clear hlt hile hO0 hB0 hR0
      go_wp2_with fail
      go_loopw [7, 9] (fun fv iv wx => ∃ j : Nat, j ≤ i ∧ iv = .int .i64 j ∧ wx.ownsRow w.heap.size 54 4 fv (2 + i + 2 * j) (cin (hdT m ++ fkT 1 i ++ jnT j)) ∧ Below w.heap.size w wx ∧ wx.heap[w.heap.size]? = some (.cells #[.slice none 0 0, .int .i64 0, .int .i64 0, .int .i64 0] 24 (0, 0))) (fun _ iv _ => i - (intOf iv).toNat)
      case atStart => exact ⟨0, by omega, rfl, by simpa [jnT] using hO, hB, hR⟩
      case round =>
        clear hO hB hR
        obtain ⟨j, hjle, rfl, hO2, hB2, hR⟩ := hrel
        by_cases hlt : j < i
        · have hlti : (j : Int) < (i : Int) := by omega
          have HS : Hid (cin (hdT m ++ fkT 1 i ++ jnT (j + 1)) = cin (hdT m ++ fkT 1 i ++ jnT j) ++ cin [⟨10, 3, (j : Int), 0⟩, ⟨2, 0, 0, 3⟩]) := by show _ = _; rw [jnT_succ, ← List.append_assoc, cin_app]
          go_wp2_with (at_builtin; refine wpList_append_own _ rfl _ _ 55 rfl w.heap.size 54 i0 _ 4 32 Tryd.underlying55 hi hz0 hz1 hz2 rfl (by decide) _ _ _ rfl (hO2.alloc _) ⟨wr.heap.size, 0, none⟩ 2 2 (cin [⟨10, 3, (j : Int), 0⟩, ⟨2, 0, 0, 3⟩]) rfl rfl ?c1 ?c2 ?c3 ?c4 ?c5 ?_)
          case c1 => exact cin_new _ _ _ _ rfl
          case c2 => exact cin_one _
          case c3 => unfold maxLen; omega
          case c4 => omega
          case c5 => have := hB2.size; simp; omega
          intro v' w3 hown' hgrow _
          have hB3 := grown7 (below_alloc hB2 _) (hO2.alloc _) hgrow
          have hRa : ∀ o, (wr.alloc o).heap[w.heap.size]? = some (.cells #[.slice none 0 0, .int .i64 0, .int .i64 0, .int .i64 0] 24 (0, 0)) := fun o => (Below.heap_alloc _ _ _ (lt_of_block hR)).trans hR
          have hR3 := (hgrow.block w.heap.size (lt_of_block (hRa _)) (fun e => own_typ hO2 hR (by decide) e.symm)).trans (hRa _)
          rw [show 2 + i + 2 * j + 2 = 2 + i + 2 * (j + 1) by omega] at hown'
          clear hgrow hO2 hRa hR hB2
          go_wp2_with fail
          go_roundw
          case rel => exact ⟨j + 1, by omega, by go_num, by rw [HS.out]; exact hown', hB3, hR3⟩
          case measure => simp [intOf]; omega
        · obtain rfl : j = i := by omega
          clear hlt hjle
          go_wp2_with (at_builtin; refine wpList_append_own _ rfl _ _ 55 rfl w.heap.size 54 i0 _ 4 32 Tryd.underlying55 hi hz0 hz1 hz2 rfl (by decide) _ _ _ rfl (hO2.alloc _) ⟨wr.heap.size, 0, none⟩ 1 1 (cin [⟨15, 0, 0, 0⟩]) rfl rfl ?c1 ?c2 ?c3 ?c4 ?c5 ?_)
          case c1 => exact cin_new _ _ _ _ rfl
          case c2 => exact cin_one _
          case c3 => unfold maxLen; omega
          case c4 => omega
          case c5 => have := hB2.size; simp; omega
          intro v' w3 hown' hgrow _
          have hB3 := grown7 (below_alloc hB2 _) (hO2.alloc _) hgrow
          have hRa : ∀ o, (wr.alloc o).heap[w.heap.size]? = some (.cells #[.slice none 0 0, .int .i64 0, .int .i64 0, .int .i64 0] 24 (0, 0)) := fun o => (Below.heap_alloc _ _ _ (lt_of_block hR)).trans hR
          have hR3 := (hgrow.block w.heap.size (lt_of_block (hRa _)) (fun e => own_typ hO2 hR (by decide) e.symm)).trans (hRa _)
          clear hgrow hO2 hB2 hRa hR
          obtain ⟨g7, cap7, rfl, -, -⟩ := hown'.form (by omega)
          have e9 : cin (hdT m ++ (fkT 1 j ++ jnT j)) ++ cin [(⟨15, 0, 0, 0⟩ : In)] = cin (treeF j m 1) := by rw [← cin_app, treeF_eq]; simp [List.append_assoc]
          rw [e9] at hown'
          clear e9
          obtain ⟨N, hN⟩ : ∃ N, 2 + j + 2 * j + 1 = N := ⟨_, rfl⟩
          rw [hN] at hown' ⊢
          have HN : Hid (N = 3 + 3 * j ∧ (treeF j m 1).length = N) := ⟨by omega, by rw [treeF_len]; omega⟩
          have hN12 : N ≤ 12 := by omega
          clear hN
          have hbox4 := heap_alloc2_new w3 (.cells #[.slice (some ⟨g7, 0, none⟩) N cap7] 55) (.cells #[.slice (some ⟨w3.heap.size, 0, none⟩) 1 1, .int .i64 0, .int .i64 D, .int .i64 100] 24)
          have hfr4 := heap_alloc2_old w3 (.cells #[.slice (some ⟨g7, 0, none⟩) N cap7] 55) (.cells #[.slice (some ⟨w3.heap.size, 0, none⟩) 1 1, .int .i64 0, .int .i64 D, .int .i64 100] 24)
          have hb34 := below_alloc (below_alloc (Below.refl w3.heap.size w3) (.cells #[.slice (some ⟨g7, 0, none⟩) N cap7] 55)) (.cells #[.slice (some ⟨w3.heap.size, 0, none⟩) 1 1, .int .i64 0, .int .i64 D, .int .i64 100] 24)
          have hFR := own_blk7 (base := w.heap.size) (n := 1) (s := 1) hfr4 hB3.size rfl rfl (by omega)
          have hfo := own_keep hown' (KeepI.below hb34)
          have hR4 := (hb34.block w.heap.size (lt_of_block hR3)).trans hR3
          have hB4 := below_then hB3 hb34
          have hFO : FO w.heap.size ((w3.alloc (.cells #[.slice (some ⟨g7, 0, none⟩) N cap7] 55)).alloc (.cells #[.slice (some ⟨w3.heap.size, 0, none⟩) 1 1, .int .i64 0, .int .i64 D, .int .i64 100] 24)) [.slice (some ⟨g7, 0, none⟩) N cap7] (fsT j D m 1) := by
            have e1 : fsT j D m 1 = [treeF j m 1] := by simp [fsT, gF]
            rw [e1]
            refine ⟨rfl, fun i h1 h2 => ?_⟩
            obtain rfl : i = 0 := by simp at h1; exact h1
            show World.ownsRow _ _ _ _ _ (treeF j m 1).length _
            rw [HN.out.2]
            exact hfo
          have hbw : w.heap.size ≤ w3.heap.size := hB3.size
          clear hfr4 hb34 hown' hR3 hB3
          go_wp2_with fail
          generalize (w3.alloc (.cells #[.slice (some ⟨g7, 0, none⟩) N cap7] 55)).alloc (.cells #[.slice (some ⟨w3.heap.size, 0, none⟩) 1 1, .int .i64 0, .int .i64 D, .int .i64 100] 24) = w4 at *
          generalize hfg0 : w3.heap.size = fg0 at *
          go_loopw [11] (fun dv wx => ∃ (dd : Nat) (vals : List Value) (fg fc : Nat), 1 ≤ dd ∧ dd ≤ D + 1 ∧ dv = .int .i64 dd ∧ wx.heap[fg0 + 1]? = some (.cells #[.slice (some ⟨fg, 0, none⟩) dd fc, .int .i64 0, .int .i64 D, .int .i64 100] 24 (0, 0)) ∧ wx.ownsRow w.heap.size 55 1 (.slice (some ⟨fg, 0, none⟩) dd fc) dd vals ∧ FO w.heap.size wx vals (fsT j D m dd) ∧ wx.ownsRow w.heap.size 54 4 (.slice (some ⟨g7, 0, none⟩) N cap7) N (cin (treeF j m 1)) ∧ Below w.heap.size w wx ∧ wx.heap[w.heap.size]? = some (.cells #[.slice none 0 0, .int .i64 0, .int .i64 0, .int .i64 0] 24 (0, 0))) (fun dv _ => D + 1 - (intOf dv).toNat)
          case atStart => exact ⟨1, _, fg0, 1, by omega, by omega, rfl, hbox4, hFR, hFO, hfo, hB4, hR4⟩
          case round =>
            obtain ⟨dd, vals, fg, fc, h1d, hdD, rfl, hbx, hFr, hFo, hfo', hB5, hR5⟩ := hrel
            by_cases hle : dd ≤ D
            · have hled : (dd : Int) ≤ (D : Int) := by omega
              generalize hwo : wr = wo at *
              clear hwo hbox4 hFR hFO hfo hB4 hR4
              have hfc : ∀ k u, (cin (treeF j m 1))[k]? = some u → wo.cell? ((⟨g7, 0, none⟩ : Addr).add k) = some u := fun k u hu => by
                have e : (⟨g7, 0, none⟩ : Addr).add k = ⟨g7, k, none⟩ := by simp [Addr.add]; intro h; exact h.symm
                have hk : k < N * 4 := by
                  have := (List.getElem?_eq_some_iff.1 hu).1
                  rw [cin_len, HN.out.2] at this
                  exact this
                rw [e, hfo'.cellAt k hk, hu]
              go_wp2_with (at_builtin; refine wpList_append_own _ rfl _ _ 55 rfl wo.heap.size 54 i0 _ 4 32 Tryd.underlying55 hi hz0 hz1 hz2 rfl (by decide) (.slice none 0 0) 0 [] rfl (World.ownsRow_nil _ _ _ _) ⟨g7, 0, none⟩ N cap7 (cin (treeF j m 1)) rfl ?c0 ?c1 ?c2 ?c3 ?c4 ?c5 ?_)
              case c0 => rw [cin_len, HN.out.2]
              case c1 => exact hfc
              case c2 => exact cin_one _
              case c3 => unfold maxLen; omega
              case c4 => omega
              case c5 => exact Nat.le_refl _
              intro gv w5 hownG hgrowG _
              have hBG : Below wo.heap.size wo w5 := (Below.refl _ _).grown hgrowG (Nat.le_refl _) (fun k hk => by simp [Value.ownBlock] at hk)
              obtain ⟨gg, gc, rfl, hgl, -⟩ := hownG.form (by have := HN.out.1; omega)
              clear hgrowG hfc
              have hdd1 : ((dd : Int) + 1) = ((dd + 1 : Nat) : Int) := by omega
              go_wp2_with fail
              go_loopw [13] (fun iv wx => ∃ i : Nat, i ≤ N ∧ iv = .int .i64 i ∧ wx.ownsRow wo.heap.size 54 4 (.slice (some ⟨gg, 0, none⟩) N gc) N (cin (turnL ((dd : Int) + 1) (treeF j m 1) i)) ∧ Below wo.heap.size wo wx) (fun iv _ => N - (intOf iv).toNat)
              case atStart => exact ⟨0, by omega, rfl, by rw [turnL_zero]; exact hownG, hBG⟩
              case round =>
                obtain ⟨i, hiN, rfl, hOg, hBg⟩ := hrel
                by_cases hlt : i < N
                · have hlti : (i : Int) < (N : Int) := by omega
                  have hiF : i < (treeF j m 1).length := by rw [HN.out.2]; exact hlt
                  have c0 : wr.cell? ⟨gg, i * 4, none⟩ = some (.int .i64 (treeF j m 1)[i].o) := by
                    have := hOg.cellAt (i * 4 + 0) (by omega)
                    rw [turn_cell _ _ hiF (by omega)] at this
                    exact this
                  have c2 : wr.cell? ⟨gg, i * 4 + 2, none⟩ = some (.int .i64 (treeF j m 1)[i].b) := by
                    have := hOg.cellAt (i * 4 + 2) (by omega)
                    rw [turn_cell _ _ hiF (by omega)] at this
                    exact this
                  have fz : wr.frozen? ⟨gg, i * 4 + 2, none⟩ = false := by
                    rcases hOg.2 with ⟨h0, _⟩ | ⟨g', cap', cur, h0, _, h2, _⟩
                    · cases h0
                    · cases h0
                      exact frozen_of_row _ _ _ _ _ h2
                  have HIF : Hid (i < (treeF j m 1).length) := hiF
                  by_cases h9 : (treeF j m 1)[i].o = 9
                  · have H9 : Hid ((treeF j m 1)[i].o = 9) := h9
                    have c09 : wr.cell? ⟨gg, i * 4, none⟩ = some (.int .i64 9) := c0.trans (congrArg (fun z => some (Value.int .i64 z)) h9)
                    clear c0
                    have hset := own_setK hOg (i * 4 + 2) (.int .i64 ((dd : Int) + 1))
                    have hS : Hid ((cin (turnL ((dd : Int) + 1) (treeF j m 1) i)).set (i * 4 + 2) (.int .i64 ((dd : Int) + 1)) = cin (turnL ((dd : Int) + 1) (treeF j m 1) (i + 1))) := turn_set _ _ hiF h9
                    have hBs := hBg.setCell (p := ⟨gg, i * 4 + 2, none⟩) hgl (.int .i64 ((dd : Int) + 1))
                    clear hOg hdd1
                    go_wp2_with fail
                    go_roundw
                    case rel => exact ⟨i + 1, by omega, by go_num, by rw [← hS.out]; exact hset, hBs⟩
                    case measure => simp [intOf]; omega
                  · have h9b : ((treeF j m 1)[i].o == 9) = false := by simpa using h9
                    have hS : Hid (turnL ((dd : Int) + 1) (treeF j m 1) (i + 1) = turnL ((dd : Int) + 1) (treeF j m 1) i) := turn_no _ _ hiF h9
                    generalize (treeF j m 1)[i].o = oo at *
                    clear h9 hiF hdd1 c2
                    go_wp2_with fail
                    go_roundw
                    case rel => exact ⟨i + 1, by omega, by go_num, by rw [hS.out]; exact hOg, hBg⟩
                    case measure => simp [intOf]; omega
                · obtain rfl : i = N := by omega
                  have hnl : ¬ (i : Int) < (i : Int) := by omega
                  have hLast : cin (turnL ((dd : Int) + 1) (treeF j m 1) i) = cin (treeF j m (dd + 1)) := by
                    have e1 := turnL_all ((dd : Int) + 1) (treeF j m 1)
                    rw [HN.out.2] at e1
                    rw [e1, hdd1, turn_tree hW1 hW3 m (dd + 1)]
                  rw [hLast] at hOg
                  clear hLast hlt hiN hdd1 hownG hBG
                  have hbxr := (hBg.block _ (lt_of_block hbx)).trans hbx
                  have hFrr := own_same7 (w' := wr) hFr (fun g hg => hBg.block g (hFr.lt g hg).2)
                  have hFor := hFo.keep (KeepI.below hBg)
                  have hfor := own_keep hfo' (KeepI.below hBg)
                  have hRr := (hBg.block _ (lt_of_block hR5)).trans hR5
                  have hBr := hB5.trans (hBg.mono hB5.size)
                  have hOr := own_mono7 hOg hB5.size
                  have x0 : wr.cell? ⟨fg0 + 1, 0, none⟩ = some (.slice (some ⟨fg, 0, none⟩) dd fc) := cell_of_row _ _ _ _ _ _ hbxr
                  have xl : fg0 + 1 < wr.heap.size := lt_of_block hbxr
                  clear hbx hFr hFo hfo' hB5 hR5 hOg hBg
                  by_cases hdd : dd = D
                  · have heb : ((dd : Int) == (D : Int)) = true := by simp [hdd]
                    have HG : Hid (fsT j D m (dd + 1) = fsT j D m dd ++ [[⟨15, 0, 0, 0⟩]]) := by show _ = _; rw [fsT_succ]; unfold gF; rw [if_pos ⟨hdd, by omega⟩]
                    clear hdd
                    go_wp2_with (at_builtin; refine wpList_append_own _ rfl _ _ 22 rfl w.heap.size 55 s0 _ 1 24 Tryd.underlying22 si sz0 sz1 sz2 rfl (by decide) _ _ _ rfl ((hFrr.alloc _).alloc _) ⟨wr.heap.size + 1, 0, none⟩ 1 1 [.slice (some ⟨wr.heap.size, 0, none⟩) 1 1] rfl rfl ?c1 ?c2 ?c3 ?c4 ?c5 ?_)
                    case c2 => rfl
                    case c3 => unfold maxLen; omega
                    case c4 => omega
                    case c5 => have := hBr.size; simp; omega
                    intro v' w7 hown7 hgrow7 _
                    obtain ⟨fg', fc', rfl, -, -⟩ := hown7.form (by omega)
                    have hbA := below_alloc (below_alloc (Below.refl wr.heap.size wr) (.cells #[.int .i64 15, .int .i64 0, .int .i64 0, .int .i64 0] 54)) (.cells #[.slice (some ⟨wr.heap.size, 0, none⟩) 1 1] 55)
                    have hvA := own_blk7 (base := w.heap.size) (n := 1) (s := 4) (xs := cin [⟨15, 0, 0, 0⟩]) (heap_alloc2_old wr (.cells #[.int .i64 15, .int .i64 0, .int .i64 0, .int .i64 0] 54) (.cells #[.slice (some ⟨wr.heap.size, 0, none⟩) 1 1] 55)) hBr.size rfl rfl (by omega)
                    have hM := tree_more (f := [⟨15, 0, 0, 0⟩]) hbw ((hbA.block _ (lt_of_block hbxr)).trans hbxr) ((hFrr.alloc _).alloc _) (hFor.keep (KeepI.below hbA)) hvA (own_keep hfor (KeepI.below hbA)) (below_then hBr hbA) ((hbA.block _ (lt_of_block hRr)).trans hRr) hgrow7 hown7
                    obtain ⟨m0, m1, m2, m3, m4, m5, m6, m7⟩ := hM
                    clear hgrow7 hown7 hbA hvA hbxr hFrr hFor hfor hRr hBr hOr x0 xl
                    go_wp2_with fail
                    go_roundw
                    case rel => exact ⟨dd + 1, _, fg', fc', by omega, by omega, by go_num, m2, m3, by rw [HG.out]; exact m4, m5, m6, m7⟩
                    case measure => simp [intOf]; omega
                  · have heb : ((dd : Int) == (D : Int)) = false := by simp; omega
                    have HG : Hid (fsT j D m (dd + 1) = fsT j D m dd ++ [treeF j m (dd + 1)]) := by show _ = _; rw [fsT_succ]; unfold gF; rw [if_neg (by omega)]
                    clear hdd
                    go_wp2_with (at_builtin; refine wpList_append_own _ rfl _ _ 22 rfl w.heap.size 55 s0 _ 1 24 Tryd.underlying22 si sz0 sz1 sz2 rfl (by decide) _ _ _ rfl (hFrr.alloc _) ⟨wr.heap.size, 0, none⟩ 1 1 [.slice (some ⟨gg, 0, none⟩) i gc] rfl rfl ?e1 ?e2 ?e3 ?e4 ?e5 ?_)
                    case e2 => rfl
                    case e3 => unfold maxLen; omega
                    case e4 => omega
                    case e5 => have := hBr.size; simp; omega
                    intro v' w7 hown7 hgrow7 _
                    obtain ⟨fg', fc', rfl, -, -⟩ := hown7.form (by omega)
                    have hbA := below_alloc (Below.refl wr.heap.size wr) (.cells #[.slice (some ⟨gg, 0, none⟩) i gc] 55)
                    have hvA : (wr.alloc (.cells #[.slice (some ⟨gg, 0, none⟩) i gc] 55)).ownsRow w.heap.size 54 4 (.slice (some ⟨gg, 0, none⟩) i gc) (treeF j m (dd + 1)).length (cin (treeF j m (dd + 1))) := by
                      have hh := own_keep hOr (KeepI.below hbA)
                      rw [show (treeF j m (dd + 1)).length = i by rw [treeF_len]; have := HN.out.1; omega]
                      exact hh
                    have hM := tree_more (f := treeF j m (dd + 1)) hbw ((hbA.block _ (lt_of_block hbxr)).trans hbxr) (hFrr.alloc _) (hFor.keep (KeepI.below hbA)) hvA (own_keep hfor (KeepI.below hbA)) (below_then hBr hbA) ((hbA.block _ (lt_of_block hRr)).trans hRr) hgrow7 hown7
                    obtain ⟨m0, m1, m2, m3, m4, m5, m6, m7⟩ := hM
                    clear hgrow7 hown7 hbA hvA hbxr hFrr hFor hfor hRr hBr hOr x0 xl
                    go_wp2_with fail
                    go_roundw
                    case rel => exact ⟨dd + 1, _, fg', fc', by omega, by omega, by go_num, m2, m3, by rw [HG.out]; exact m4, m5, m6, m7⟩
                    case measure => simp [intOf]; omega
            · obtain rfl : dd = D + 1 := by omega
              have hnl : ¬ ((D + 1 : Nat) : Int) ≤ (D : Int) := by omega
              clear hle h1d hdD
              obtain ⟨x0, x1, x2, x3⟩ : wr.cell? ⟨fg0 + 1, 0, none⟩ = some (.slice (some ⟨fg, 0, none⟩) (D + 1) fc) ∧ wr.cell? ⟨fg0 + 1, 1, none⟩ = some (.int .i64 0) ∧ wr.cell? ⟨fg0 + 1, 2, none⟩ = some (.int .i64 D) ∧ wr.cell? ⟨fg0 + 1, 3, none⟩ = some (.int .i64 100) := ⟨cell_of_row _ _ _ _ _ _ hbx, cell_of_row _ _ _ _ _ _ hbx, cell_of_row _ _ _ _ _ _ hbx, cell_of_row _ _ _ _ _ _ hbx⟩
              obtain ⟨y0, y1, y2, y3⟩ : wr.cell? ⟨w.heap.size, 0, none⟩ = some (.slice none 0 0) ∧ wr.cell? ⟨w.heap.size, 1, none⟩ = some (.int .i64 0) ∧ wr.cell? ⟨w.heap.size, 2, none⟩ = some (.int .i64 0) ∧ wr.cell? ⟨w.heap.size, 3, none⟩ = some (.int .i64 0) := ⟨cell_of_row _ _ _ _ _ _ hR5, cell_of_row _ _ _ _ _ _ hR5, cell_of_row _ _ _ _ _ _ hR5, cell_of_row _ _ _ _ _ _ hR5⟩
              have yf := fun k => frozen_of_row _ _ k _ _ hR5
              go_wp2_with fail
              change bodyPost _ _ _ _ _ (putP wr w.heap.size (.slice (some ⟨fg, 0, none⟩) (D + 1) fc) (.int .i64 0) (.int .i64 D) (.int .i64 100))
              have hbx9 := putP_box hR5 (.slice (some ⟨fg, 0, none⟩) (D + 1) fc) (.int .i64 0) (.int .i64 D) (.int .i64 100)
              have hbl9 := putP_below hB5 (Nat.le_refl _) (.slice (some ⟨fg, 0, none⟩) (D + 1) fc) (.int .i64 0) (.int .i64 D) (.int .i64 100)
              have hot9 : ∀ k, k ≠ w.heap.size → (putP wr w.heap.size (.slice (some ⟨fg, 0, none⟩) (D + 1) fc) (.int .i64 0) (.int .i64 D) (.int .i64 100)).heap[k]? = wr.heap[k]? := fun k hk => putP_other hk _ _ _ _
              generalize putP wr w.heap.size (.slice (some ⟨fg, 0, none⟩) (D + 1) fc) (.int .i64 0) (.int .i64 D) (.int .i64 100) = w9 at *
              have hSF := (hFo.keep (w' := w9) (fun g cs fz e => hot9 g (by rintro rfl; rw [hR5] at e; simp at e))).slF (fg := fg) (fc := fc) (by rw [show (fsT j D m (D + 1)).length = D + 1 by simp [fsT]]; exact own_same7 hFr fun g hg => hot9 g (by rintro rfl; exact own_typ hFr hR5 (by decide) hg))
              rw [show (fsT j D m (D + 1)).length = D + 1 by simp [fsT]] at hSF
              obtain ⟨z0, z1, z2, z3⟩ : w9.cell? ⟨w.heap.size, 0, none⟩ = some (.slice (some ⟨fg, 0, none⟩) (D + 1) fc) ∧ w9.cell? ⟨w.heap.size, 1, none⟩ = some (.int .i64 0) ∧ w9.cell? ⟨w.heap.size, 2, none⟩ = some (.int .i64 D) ∧ w9.cell? ⟨w.heap.size, 3, none⟩ = some (.int .i64 100) := ⟨cell_of_row _ _ _ _ _ _ hbx9, cell_of_row _ _ _ _ _ _ hbx9, cell_of_row _ _ _ _ _ _ hbx9, cell_of_row _ _ _ _ _ _ hbx9⟩
              exact bodyPost_ret (v := .agg #[.slice (some ⟨fg, 0, none⟩) (D + 1) fc, .int .i64 0, .int .i64 D, .int .i64 100]) (by simp [results, Tryd.results20, go_sem, z0, z1, z2, z3]) rfl ⟨_, rfl, hSF, hbl9⟩
end Go.Proofs.YtpmapdialjdcbaaDoor
