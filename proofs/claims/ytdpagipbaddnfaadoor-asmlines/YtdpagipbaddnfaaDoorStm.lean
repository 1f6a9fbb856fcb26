/-
  The lines of a text's tokens.
-/
import Derived.Test.YtdpagipbaddnfaaDoorRead
namespace Go.Proofs.YtdpagipbaddnfaaDoor
open Go.RowKit L3 Go.Maps

/-- no End stands first, none behind another -/
def goodT : Bool → List Tk → Prop
  | _, [] => True
  | o, t :: r => if t.k = 4 then o = true ∧ goodT false r else goodT true r
theorem goodT_end {o : Bool} {t : Tk} {r : List Tk} (h : goodT o (t :: r)) (h4 : t.k = 4) : o = true ∧ goodT false r := by simpa [goodT, h4] using h
theorem goodT_on {o : Bool} {t : Tk} {r : List Tk} (h : goodT o (t :: r)) (h4 : ¬ t.k = 4) : goodT true r := by simpa [goodT, h4] using h
/-- the cells of lines -/
def cellsS : List Sm → List Value → List Value
  | s :: r, v :: vs => .int .i64 (s.k : Int) :: v :: .int .i64 s.l :: cellsS r vs
  | _, _ => []
theorem cellsS_snoc : ∀ (all : List Sm) (vals : List Value) (s : Sm) (v : Value), vals.length = all.length → cellsS (all ++ [s]) (vals ++ [v]) = cellsS all vals ++ [.int .i64 (s.k : Int), v, .int .i64 s.l]
  | [], [], s, v, _ => rfl
  | [], _ :: _, _, _, h => by simp at h
  | _ :: _, [], _, _, h => by simp at h
  | a :: all, u :: vals, s, v, h => by
    simp only [List.cons_append, cellsS]
    rw [cellsS_snoc all vals s v (by simpa using h)]
theorem cellsS_at : ∀ (all : List Sm) (vals : List Value) (k : Nat) (h : k < all.length) (h' : k < vals.length), (cellsS all vals)[k * 3]? = some (.int .i64 (all[k].k : Int)) ∧ (cellsS all vals)[k * 3 + 1]? = some vals[k] ∧ (cellsS all vals)[k * 3 + 2]? = some (.int .i64 all[k].l)
  | [], _, k, h, _ => by simp at h
  | _ :: _, [], k, _, h => by simp at h
  | a :: all, u :: vals, 0, _, _ => by simp [cellsS]
  | a :: all, u :: vals, k + 1, h, h' => by
    have := cellsS_at all vals k (by simpa using h) (by simpa using h')
    simp only [cellsS, List.getElem_cons_succ]
    rw [show (k + 1) * 3 = k * 3 + 1 + 1 + 1 by omega]
    simpa using this
/-- a slice of lines, each with its numbers -/
def SlS (w : World) (v : Value) (all : List Sm) : Prop := ∃ a c, v = .slice a all.length c ∧ ∀ k (h : k < all.length), ∃ g f oa ol oc, a = some ⟨g, f, none⟩ ∧ w.cell? ⟨g, f + k * 3, none⟩ = some (.int .i64 (all[k].k : Int)) ∧ w.cell? ⟨g, f + k * 3 + 1, none⟩ = some (.slice oa ol oc) ∧ w.cell? ⟨g, f + k * 3 + 2, none⟩ = some (.int .i64 all[k].l) ∧ SlN w (.slice oa ol oc) all[k].xs
theorem SlS.kept {w w' : World} {v : Value} {all : List Sm} (h : SlS w v all) (hb : Below w.heap.size w w') : SlS w' v all := by
  obtain ⟨a, c, e, hk⟩ := h
  refine ⟨a, c, e, fun k h => ?_⟩
  obtain ⟨g, f, oa, ol, oc, e2, h1, h2, h3, h4⟩ := hk k h
  have st : ∀ {x : Addr} {u : Value}, w.cell? x = some u → w'.cell? x = some u := fun {x} {u} hx => by
    rw [World.cell?_of_block (hb.block _ (World.block_lt_of_cell? w x hx))]
    exact hx
  exact ⟨g, f, oa, ol, oc, e2, st h1, st h2, st h3, h4.kept hb⟩
/-- lines that a call owns -/
structure OwnS (w : World) (B : Nat) (v : Value) (all : List Sm) (vals : List Value) : Prop where
  len : vals.length = all.length
  row : w.ownsRow B 102 3 v all.length (cellsS all vals)
  ops : ∀ k (h : k < all.length) (h' : k < vals.length), ∃ oa ol oc, vals[k] = .slice oa ol oc ∧ w.ownsRow B 3 1 vals[k] all[k].xs.length (cellsN all[k].xs)
theorem OwnS.slS {w : World} {B : Nat} {v : Value} {all : List Sm} {vals : List Value} (h : OwnS w B v all vals) : SlS w v all := by
  rcases h.row.2 with ⟨rfl, h0⟩ | ⟨g, cap, cur, rfl, _⟩
  · exact ⟨none, 0, by rw [h0], fun k hk => by omega⟩
  · refine ⟨some ⟨g, 0, none⟩, cap, rfl, fun k hk => ?_⟩
    have hk' : k < vals.length := by rw [h.len]; exact hk
    obtain ⟨oa, ol, oc, e, ho⟩ := h.ops k hk hk'
    obtain ⟨c0, c1, c2⟩ := cellsS_at all vals k hk hk'
    have at' : ∀ j, j < 3 → w.cell? ⟨g, 0 + k * 3 + j, none⟩ = (cellsS all vals)[k * 3 + j]? := fun j hj => by rw [Nat.zero_add, h.row.cellAt _ (by omega)]
    rw [e] at ho c1
    exact ⟨g, 0, oa, ol, oc, rfl, (at' 0 (by omega)).trans c0, (at' 1 (by omega)).trans c1, (at' 2 (by omega)).trans c2, own_slN ho⟩
theorem OwnS.kept {w w' : World} {B : Nat} {v : Value} {all : List Sm} {vals : List Value} (h : OwnS w B v all vals) (hb : Below w.heap.size w w') : OwnS w' B v all vals :=
  ⟨h.len, owns_same h.row fun g hg => hb.block g (h.row.lt g hg).2, fun k h1 h2 => by
    obtain ⟨oa, ol, oc, e, ho⟩ := h.ops k h1 h2
    exact ⟨oa, ol, oc, e, owns_same ho fun g hg => hb.block g (ho.lt g hg).2⟩⟩
theorem OwnS.push {w w1 w4 : World} {B : Nat} {v v' ov : Value} {all : List Sm} {vals : List Value} {s : Sm} (h : OwnS w B v all vals) (hw : Below w.heap.size w w1) (hgrow : w1.grownBy w4 v.ownBlock)
    (hown : w4.ownsRow B 102 3 v' (all.length + 1) (cellsS all vals ++ [.int .i64 (s.k : Int), ov, .int .i64 s.l]))
    (ho : w1.ownsRow B 3 1 ov s.xs.length (cellsN s.xs)) (hs : ∃ oa ol oc, ov = .slice oa ol oc) : OwnS w4 B v' (all ++ [s]) (vals ++ [ov]) := by
  have hk := h.kept hw
  have keep : ∀ {u : Value} {xs : List Int}, w1.ownsRow B 3 1 u xs.length (cellsN xs) → w4.ownsRow B 3 1 u xs.length (cellsN xs) := fun {u} {xs} hu => owns_same hu fun g hg => hgrow.block g (hu.lt g hg).2 (fun e => own_ne hu hk.row (by decide) g hg e.symm)
  refine ⟨by simp [h.len], ?_, fun k h1 h2 => ?_⟩
  · rw [cellsS_snoc _ _ _ _ h.len]
    simpa using hown
  · by_cases hkk : k < all.length
    · have hk2 : k < vals.length := by rw [h.len]; exact hkk
      rw [List.getElem_append_left hkk, List.getElem_append_left hk2]
      obtain ⟨oa, ol, oc, e, ho'⟩ := hk.ops k hkk hk2
      exact ⟨oa, ol, oc, e, keep ho'⟩
    · have e1 : k = all.length := by simp at h1; omega
      subst e1
      have e2 : (all ++ [s])[all.length]'h1 = s := by simp
      have e3 : (vals ++ [ov])[all.length]'h2 = ov := by rw [List.getElem_append_right (by rw [h.len]; omega)]; simp
      rw [e2, e3]
      obtain ⟨oa, ol, oc, e⟩ := hs
      exact ⟨oa, ol, oc, e, keep ho⟩
def StmPost (T : List Tk) (w : World) (e : Ending) (w' : World) : Prop :=
  Below w.heap.size w w' ∧ ((∃ x, stmF [] [] 0 T = .inl x ∧ e = .returned (.tuple #[.slice none 0 0, .int .i64 x])) ∨
    ∃ all sa sc, stmF [] [] 0 T = .inr all ∧ e = .returned (.tuple #[.slice sa all.length sc, .int .i64 0]) ∧ SlS w' (.slice sa all.length sc) all)
/-- the loop over the tokens, behind k of them -/
structure Stg (w : World) (T : List Tk) (wr : World) (k bg : Nat) (all : List Sm) (last : Int) (v : Value) (vals : List Value) : Prop where
  map : KMap wr w.heap.size
  own : OwnS wr (w.heap.size + 1) v all vals
  low : Below w.heap.size w wr
  big : w.heap.size < wr.heap.size
  bgk : bg ≤ k
  kle : k ≤ T.length
  go : stmF [] [] 0 T = stmF ((T.take k).drop bg) all last (T.drop k)
  good : goodT (decide (bg < k)) (T.drop k)
  l0 : 0 ≤ last
  l1 : last ≤ 9000
  cnt : all.length ≤ k
end Go.Proofs.YtdpagipbaddnfaaDoor
