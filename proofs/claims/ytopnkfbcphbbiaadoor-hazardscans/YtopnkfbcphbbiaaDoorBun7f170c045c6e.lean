/-
  Helpers: A9ArI, A9ArH, A9AaP.
-/
import Derived.Test.YtopnkfbcphbbiaaDoorBunfb80ea69b371
import Derived.ProofKit
import Derived.OpenShut
import Derived.Deep.RegionHeld3
namespace Go.Proofs.YtopnkfbcphbbiaaDoor.A9
open Go.ChangeShapes Go.WideShapes Go.ChangeAt Go.RowKit
open H8 (HTab below_then)

def NAt (w : World) (ad : Option Addr) (len : Nat) : Prop := ∀ k, k < len → ∃ b o z, ad = some ⟨b, o, none⟩ ∧ w.cell? ⟨b, o + k, none⟩ = some (.int .i64 z)
theorem NAt.kept {w w' : World} {ad : Option Addr} {len : Nat} (h : NAt w ad len) (hb : Below w.heap.size w w') : NAt w' ad len := fun k hk => by
  obtain ⟨b, o, z, h1, h3⟩ := h k hk
  exact ⟨b, o, z, h1, (hb.cell (p := ⟨b, o + k, none⟩) (block_lt_of_cell h3)).trans h3⟩
theorem cellsInt : Tryd.prog.cellsOf 3 = 1 := by kernel_rfl
theorem nums_in {H : Type} {enc : TypeId × Value → H} {W : World} {v : Value} {d : DataW H} {ps : List MemPlace} (hv : ∃ a len cap, v = .slice a len cap) (h : DataW.Trod enc Tryd.prog W 0 (fun _ => true) true 22 v d ps) : ∃ ad len cap, v = .slice ad len cap ∧ len ≤ 9223372036854775807 ∧ NAt W ad len := by
  obtain ⟨a0, len, cap, rfl⟩ := hv
  obtain ⟨fuel, hf⟩ := h
  rcases open_ints Tryd.underlying22 Tryd.underlying3 cellsInt hf with ⟨hcs, -⟩ | ⟨a, len', cap', zs, hcs, -, hl, hm, hz, -, hcell, -⟩
  · simp [Value.cells] at hcs
    obtain ⟨rfl, rfl, rfl⟩ := hcs
    exact ⟨none, 0, 0, rfl, by omega, fun k hk => by omega⟩
  · simp [Value.cells] at hcs
    obtain ⟨rfl, rfl, rfl⟩ := hcs
    simp at hz
    unfold maxLen at hm
    refine ⟨some a, len, cap, rfl, by omega, fun k hk => ?_⟩
    obtain ⟨b, off, rfl, hc⟩ := ints_at hcell (by omega)
    exact ⟨b, off, _, rfl, hc k (by omega)⟩
theorem NAt.low {W w' : World} {ad : Option Addr} {len : Nat} (h : NAt W ad len) (hb : Below W.heap.size W w') : NAt w' ad len := h.kept hb
/-- a row of equal cells, new -/
theorem row_new (w : World) (z : Value) (n : Nat) (t : TypeId) (c : Array Value) (h : c = Array.replicate n z) : (w.alloc (.cells c t (0, 0))).rowIs w.heap.size t n fun _ => z := by
  subst h
  exact ⟨_, heap_alloc_new _ _, by simp, fun i hi => by simp [hi]⟩
end Go.Proofs.YtopnkfbcphbbiaaDoor.A9
namespace Go.Proofs.YtopnkfbcphbbiaaDoor.A9
open Go.RowKit
open H8 (okP packV opB isH sizeF HTab below_then placeI placeI_bd place_any)

def like (s : Ar) (m : Nat → Int) (u : Int) : Ar := { s with mem := m, uses := u }
theorem atW_nat (h : Int) (j : Nat) : atW h j = bN h + j := by unfold atW; omega
theorem load_like {s : Ar} {h : Int} {j : Nat} {m : Nat → Int} {u : Int} (hi : inW s h j) : loadA (like s m u) h j = (like s m (wrap64 (u + 1)), m (bN h + j)) := by
  rw [load_in (show inW (like s m u) h j from hi), atW_nat]
  rfl
theorem store_like {s : Ar} {h : Int} {j : Nat} {m : Nat → Int} {u : Int} (v : Int) (hi : inW s h j) : storeA (like s m u) h j v = like s (upN m (bN h + j) v) (wrap64 (u + 1)) := by
  rw [store_in (show inW (like s m u) h j from hi), atW_nat]
  rfl
theorem add_like {s : Ar} {h : Int} {j : Nat} {m : Nat → Int} {u : Int} (v : Int) (hi : inW s h j) : addA (like s m u) h j v = (like s (upN m (bN h + j) (wrap64 (m (bN h + j) + v))) (wrap64 (u + 1)), m (bN h + j)) := by
  unfold addA
  rw [if_pos (show inW (like s m u) h j from hi), atW_nat]
  rfl
theorem swap_like {s : Ar} {h : Int} {j : Nat} {m : Nat → Int} {u : Int} {o : Int} (v : Int) (hi : inW s h j) (ho : m (bN h + j) = o) : swapA (like s m u) h j o v = (like s (upN m (bN h + j) v) (wrap64 (u + 1)), true) := by
  unfold swapA
  rw [if_pos (show inW (like s m u) h j from hi), atW_nat]
  rw [if_pos (show (like s m u).mem (bN h + j) = o from ho)]
  rfl
/-- two arenas, and a row beside them -/
structure Tw (A B : Ab) (q n : Nat) (T : TypeId) (W w : World) (sa sb : Ar) (g : Nat → Value) : Prop where
  a : ArAt A w sa
  b : ArAt B w sb
  row : w.rowIs q T n g
  low : Below W.heap.size W w
/-- .. of what blocks -/
structure TwB (A B : Ab) (q : Nat) (W : World) : Prop where
  ab : ∀ k, A.has k → ¬ B.has k
  la : ∀ k, A.has k → W.heap.size ≤ k
  lb : ∀ k, B.has k → W.heap.size ≤ k
  qa : ¬ A.has q
  qb : ¬ B.has q
  lq : W.heap.size ≤ q
  tab : 0 < W.heap.size ∧ 1 < W.heap.size
section
variable {A B : Ab} {q n : Nat} {T : TypeId} {W w w' : World} {sa sb : Ar} {g : Nat → Value}
theorem Tw.onA (h : Tw A B q n T W w sa sb g) (hB : TwB A B q W) {sa' : Ar} (hA : ArAt A w' sa') (hF : FrA A w w') : Tw A B q n T W w' sa' sb g :=
  ⟨hA, h.b.frame hF (fun k hk hh => hB.ab k hh hk) (fun hh => by have := hB.la _ hh; have := hB.tab.1; omega) (fun hh => by have := hB.la _ hh; have := hB.tab.2; omega), h.row.of_block (hF.block q h.row.lt hB.qa), step_low h.low hF hB.la⟩
theorem Tw.onB (h : Tw A B q n T W w sa sb g) (hB : TwB A B q W) {sb' : Ar} (hA : ArAt B w' sb') (hF : FrA B w w') : Tw A B q n T W w' sa sb' g :=
  ⟨h.a.frame hF hB.ab (fun hh => by have := hB.lb _ hh; have := hB.tab.1; omega) (fun hh => by have := hB.lb _ hh; have := hB.tab.2; omega), hA, h.row.of_block (hF.block q h.row.lt hB.qb), step_low h.low hF hB.lb⟩
theorem Tw.below (h : Tw A B q n T W w sa sb g) (hb : Below w.heap.size w w') : Tw A B q n T W w' sa sb g := ⟨h.a.below hb, h.b.below hb, h.row.of_block (hb.block q h.row.lt), below_then h.low hb⟩
theorem Tw.set (h : Tw A B q n T W w sa sb g) (hB : TwB A B q W) (j : Nat) (v : Value) : Tw A B q n T W (w.setCell ⟨q, j, none⟩ v) sa sb fun k => if k = j then v else g k :=
  ⟨h.a.setOther hB.qa (by have := hB.lq; have := hB.tab.1; omega) (by have := hB.lq; have := hB.tab.2; omega) _ _, h.b.setOther hB.qb (by have := hB.lq; have := hB.tab.1; omega) (by have := hB.lq; have := hB.tab.2; omega) _ _, h.row.set j v, h.low.setCell (p := ⟨q, j, none⟩) hB.lq v⟩
theorem Tw.congr (h : Tw A B q n T W w sa sb g) {g' : Nat → Value} (e : ∀ i, i < n → g i = g' i) : Tw A B q n T W w sa sb g' := ⟨h.a, h.b, h.row.congr e, h.low⟩
end
end Go.Proofs.YtopnkfbcphbbiaaDoor.A9
namespace Go.Proofs.YtopnkfbcphbbiaaDoor.A9
open Go.RowKit
open H8 (okP packV packF opA opB opC isH sizeF szT HTab below_then placeI placeI_bd place_any)

structure Pl (s : Ar) (zs : List (Int × Int)) (i : Nat) : Prop where
  le : zs.length ≤ i
  st : ∀ z ∈ zs, s.st z.1 = 1
  nd : (zs.map Prod.fst).Nodup
  mem : ∀ z ∈ zs, ∀ x, x < zN z.1 → s.mem (bN z.1 + x) = 100 * z.2 + (x : Int)
  num : ∀ z ∈ zs, 0 ≤ z.2 ∧ z.2 < 40
  bad : s.bad = false
  nw : s.nw = 512
theorem Pl.new (fr : Bool) : Pl (new9 0 512 fr) [] 0 := ⟨Nat.le_refl _, fun _ hz => (List.not_mem_nil hz).elim, List.nodup_nil, fun _ hz => (List.not_mem_nil hz).elim, fun _ hz => (List.not_mem_nil hz).elim, rfl, rfl⟩
def cutL {α : Type} (l : List α) (k : Nat) : List α := l.take k ++ l.drop (k + 1)
theorem cutL_map {α β : Type} (f : α → β) (l : List α) (k : Nat) : (cutL l k).map f = cutL (l.map f) k := by simp [cutL, List.map_take, List.map_drop]
theorem cutL_length {α : Type} {l : List α} {k : Nat} (h : k < l.length) : (cutL l k).length + 1 = l.length := by simp [cutL]; omega
theorem split_at {α : Type} {l : List α} {k : Nat} (h : k < l.length) : l = l.take k ++ (l[k] :: l.drop (k + 1)) := by rw [← List.drop_eq_getElem_cons h, List.take_append_drop]
section
variable {s : Ar} {zs : List (Int × Int)} {i : Nat}
/-- but for memory of none, and uses, the same -/
theorem Pl.alike (h : Pl s zs i) {s' : Ar} (e1 : s'.st = s.st) (e2 : s'.mem = s.mem) (e3 : s'.bad = s.bad) (e4 : s'.nw = s.nw) : Pl s' zs i :=
  ⟨h.le, fun z hz => by rw [e1]; exact h.st z hz, h.nd, fun z hz x hx => by rw [e2]; exact h.mem z hz x hx, h.num, e3.trans h.bad, e4.trans h.nw⟩
theorem Pl.more (h : Pl s zs i) : Pl s zs (i + 1) := ⟨by have := h.le; omega, h.st, h.nd, h.mem, h.num, h.bad, h.nw⟩
theorem Pl.cut (h : Pl s zs i) {k : Nat} (hk : k < zs.length) : Pl (diedS (retireS s zs[k].1) zs[k].1) (cutL zs k) (i + 1) := by
  have hsub : ∀ z, z ∈ cutL zs k → z ∈ zs ∧ z.1 ≠ zs[k].1 := by
    intro z hz
    have hs := split_at hk
    have hnd := h.nd
    rw [hs, List.map_append, List.map_cons, List.nodup_append] at hnd
    obtain ⟨-, h2, h3⟩ := hnd
    rw [List.nodup_cons] at h2
    unfold cutL at hz
    rcases List.mem_append.1 hz with h1 | h1
    · refine ⟨List.mem_of_mem_take h1, h3 _ (List.mem_map.2 ⟨z, h1, rfl⟩) _ (by simp)⟩
    · refine ⟨List.mem_of_mem_drop h1, fun e => h2.1 (List.mem_map.2 ⟨z, h1, e⟩)⟩
  refine ⟨by have := cutL_length hk; have := h.le; omega, fun z hz => ?_, ?_, fun z hz x hx => h.mem z (hsub z hz).1 x hx, fun z hz => h.num z (hsub z hz).1, h.bad, h.nw⟩
  · rw [died_st' _ (hsub z hz).2, retire_st' _ (hsub z hz).2]
    exact h.st z (hsub z hz).1
  · rw [cutL_map]
    unfold cutL
    have hs := split_at (l := zs.map Prod.fst) (k := k) (by simpa using hk)
    have hnd := h.nd
    rw [hs, List.nodup_append] at hnd
    obtain ⟨h1, h2, h3⟩ := hnd
    rw [List.nodup_cons] at h2
    exact List.nodup_append.2 ⟨h1, h2.2, fun a ha b hb => h3 a ha b (List.mem_cons_of_mem _ hb)⟩
/-- born, and its words written -/
theorem Pl.add (h : Pl s zs i) (ho : Ok9 s) {H : Int} (hb : okB s H) (hi : i < 40) {m : Nat → Int} {u : Int} (hm : ∀ x, x < zN H → m (bN H + x) = 100 * (i : Int) + (x : Int)) (hk : ∀ p, ¬ inS H p → m p = (bornS s H).mem p) : Pl (like (bornS s H) m u) (zs ++ [(H, (i : Int))]) (i + 1) := by
  have hne : ∀ z ∈ zs, z.1 ≠ H := fun z hz e => by
    have a := ho.tak z.1 (bN z.1) (by rw [h.st z hz]; decide) ⟨Nat.le_refl _, by have := zN_bd z.1; omega⟩
    rw [e, hb.2.2.2 (bN H) ⟨Nat.le_refl _, by have := zN_bd H; omega⟩] at a
    cases a
  have hap : ∀ z ∈ zs, ∀ x, x < zN z.1 → ¬ inS H (bN z.1 + x) := fun z hz x hx hp => by
    have a := ho.tak z.1 (bN z.1 + x) (by rw [h.st z hz]; decide) ⟨by omega, by omega⟩
    rw [hb.2.2.2 _ hp] at a
    cases a
  refine ⟨by have := h.le; simp; omega, fun z hz => ?_, ?_, fun z hz x hx => ?_, fun z hz => ?_, h.bad, h.nw⟩
  · rcases List.mem_append.1 hz with h1 | h1
    · show (bornS s H).st z.1 = 1
      rw [born_st' _ (hne z h1)]
      exact h.st z h1
    · simp at h1
      subst h1
      exact born_st s H
  · rw [List.map_append, List.nodup_append]
    refine ⟨h.nd, by simp, fun a ha b hb2 => ?_⟩
    obtain ⟨z, hz, rfl⟩ := List.mem_map.1 ha
    simp at hb2
    subst hb2
    exact hne z hz
  · show m (bN z.1 + x) = _
    rcases List.mem_append.1 hz with h1 | h1
    · rw [hk _ (hap z h1 x hx)]
      show (if s.fresh = true ∧ inS H (bN z.1 + x) then 0 else s.mem (bN z.1 + x)) = _
      rw [if_neg fun hq => hap z h1 x hx hq.2]
      exact h.mem z h1 x hx
    · simp at h1
      subst h1
      exact hm x hx
  · rcases List.mem_append.1 hz with h1 | h1
    · exact h.num z h1
    · simp at h1
      subst h1
      exact ⟨by simp only; omega, by simp only; omega⟩
end
end Go.Proofs.YtopnkfbcphbbiaaDoor.A9
