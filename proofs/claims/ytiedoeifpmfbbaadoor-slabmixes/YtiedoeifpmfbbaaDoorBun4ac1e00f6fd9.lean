/-
  Helpers: A9ArI, A9ArH, A9AaP, A9ArO.
-/
import Derived.Test.YtiedoeifpmfbbaaDoorBun4aa41a7b8dfa
import Derived.ProofKit
import Derived.OpenShut
import Derived.Deep.RegionHeld3
namespace Go.Proofs.YtiedoeifpmfbbaaDoor.A9
open Go.ChangeShapes Go.WideShapes Go.ChangeAt Go.RowKit
open H8 (HTab below_then)

def NAt (w : World) (ad : Option Addr) (len : Nat) : Prop := ∀ k, k < len → ∃ b o z, ad = some ⟨b, o, none⟩ ∧ w.cell? ⟨b, o + k, none⟩ = some (.int .i64 z)
theorem NAt.kept {w w' : World} {ad : Option Addr} {len : Nat} (h : NAt w ad len) (hb : Below w.heap.size w w') : NAt w' ad len := fun k hk => by
  obtain ⟨b, o, z, h1, h3⟩ := h k hk
  exact ⟨b, o, z, h1, (hb.cell (p := ⟨b, o + k, none⟩) (block_lt_of_cell h3)).trans h3⟩
theorem cellsInt : Tryd.prog.cellsOf 3 = 1 := by kernel_rfl
theorem nums_in {H : Type} {enc : TypeId × Value → H} {W : World} {v : Value} {d : DataW H} {ps : List MemPlace} (hv : ∃ a len cap, v = .slice a len cap) (h : DataW.Trod enc Tryd.prog W 0 (fun _ => true) true 22 v d ps) : ∃ ad len cap, v = .slice ad len cap ∧ len ≤ 9223372036854775807 ∧ NAt W ad len := by
  obtain ⟨a0, len, cap, rfl⟩ := hv
  obtain ⟨fuel, hf⟩ := h
  rcases open_ints Tryd.underlying22 Tryd.underlying3 cellsInt hf with ⟨hcs, -⟩ | ⟨a, len', cap', zs, hcs, -, hl, hm, hz, -, hcell, -⟩
  · simp [Value.cells] at hcs
    obtain ⟨rfl, rfl, rfl⟩ := hcs
    exact ⟨none, 0, 0, rfl, by omega, fun k hk => by omega⟩
  · simp [Value.cells] at hcs
    obtain ⟨rfl, rfl, rfl⟩ := hcs
    simp at hz
    unfold maxLen at hm
    refine ⟨some a, len, cap, rfl, by omega, fun k hk => ?_⟩
    obtain ⟨b, off, rfl, hc⟩ := ints_at hcell (by omega)
    exact ⟨b, off, _, rfl, hc k (by omega)⟩
theorem NAt.low {W w' : World} {ad : Option Addr} {len : Nat} (h : NAt W ad len) (hb : Below W.heap.size W w') : NAt w' ad len := h.kept hb
/-- a row of equal cells, new -/
theorem row_new (w : World) (z : Value) (n : Nat) (t : TypeId) (c : Array Value) (h : c = Array.replicate n z) : (w.alloc (.cells c t (0, 0))).rowIs w.heap.size t n fun _ => z := by
  subst h
  exact ⟨_, heap_alloc_new _ _, by simp, fun i hi => by simp [hi]⟩
end Go.Proofs.YtiedoeifpmfbbaaDoor.A9
namespace Go.Proofs.YtiedoeifpmfbbaaDoor.A9
open Go.RowKit
open H8 (okP packV opB isH sizeF HTab below_then placeI placeI_bd place_any)

def like (s : Ar) (m : Nat → Int) (u : Int) : Ar := { s with mem := m, uses := u }
theorem atW_nat (h : Int) (j : Nat) : atW h j = bN h + j := by unfold atW; omega
theorem load_like {s : Ar} {h : Int} {j : Nat} {m : Nat → Int} {u : Int} (hi : inW s h j) : loadA (like s m u) h j = (like s m (wrap64 (u + 1)), m (bN h + j)) := by
  rw [load_in (show inW (like s m u) h j from hi), atW_nat]
  rfl
theorem store_like {s : Ar} {h : Int} {j : Nat} {m : Nat → Int} {u : Int} (v : Int) (hi : inW s h j) : storeA (like s m u) h j v = like s (upN m (bN h + j) v) (wrap64 (u + 1)) := by
  rw [store_in (show inW (like s m u) h j from hi), atW_nat]
  rfl
theorem add_like {s : Ar} {h : Int} {j : Nat} {m : Nat → Int} {u : Int} (v : Int) (hi : inW s h j) : addA (like s m u) h j v = (like s (upN m (bN h + j) (wrap64 (m (bN h + j) + v))) (wrap64 (u + 1)), m (bN h + j)) := by
  unfold addA
  rw [if_pos (show inW (like s m u) h j from hi), atW_nat]
  rfl
theorem swap_like {s : Ar} {h : Int} {j : Nat} {m : Nat → Int} {u : Int} {o : Int} (v : Int) (hi : inW s h j) (ho : m (bN h + j) = o) : swapA (like s m u) h j o v = (like s (upN m (bN h + j) v) (wrap64 (u + 1)), true) := by
  unfold swapA
  rw [if_pos (show inW (like s m u) h j from hi), atW_nat]
  rw [if_pos (show (like s m u).mem (bN h + j) = o from ho)]
  rfl
/-- two arenas, and a row beside them -/
structure Tw (A B : Ab) (q n : Nat) (T : TypeId) (W w : World) (sa sb : Ar) (g : Nat → Value) : Prop where
  a : ArAt A w sa
  b : ArAt B w sb
  row : w.rowIs q T n g
  low : Below W.heap.size W w
/-- .. of what blocks -/
structure TwB (A B : Ab) (q : Nat) (W : World) : Prop where
  ab : ∀ k, A.has k → ¬ B.has k
  la : ∀ k, A.has k → W.heap.size ≤ k
  lb : ∀ k, B.has k → W.heap.size ≤ k
  qa : ¬ A.has q
  qb : ¬ B.has q
  lq : W.heap.size ≤ q
  tab : 1 < W.heap.size ∧ 0 < W.heap.size
section
variable {A B : Ab} {q n : Nat} {T : TypeId} {W w w' : World} {sa sb : Ar} {g : Nat → Value}
theorem Tw.onA (h : Tw A B q n T W w sa sb g) (hB : TwB A B q W) {sa' : Ar} (hA : ArAt A w' sa') (hF : FrA A w w') : Tw A B q n T W w' sa' sb g :=
  ⟨hA, h.b.frame hF (fun k hk hh => hB.ab k hh hk) (fun hh => by have := hB.la _ hh; have := hB.tab.1; omega) (fun hh => by have := hB.la _ hh; have := hB.tab.2; omega), h.row.of_block (hF.block q h.row.lt hB.qa), step_low h.low hF hB.la⟩
theorem Tw.onB (h : Tw A B q n T W w sa sb g) (hB : TwB A B q W) {sb' : Ar} (hA : ArAt B w' sb') (hF : FrA B w w') : Tw A B q n T W w' sa sb' g :=
  ⟨h.a.frame hF hB.ab (fun hh => by have := hB.lb _ hh; have := hB.tab.1; omega) (fun hh => by have := hB.lb _ hh; have := hB.tab.2; omega), hA, h.row.of_block (hF.block q h.row.lt hB.qb), step_low h.low hF hB.lb⟩
theorem Tw.below (h : Tw A B q n T W w sa sb g) (hb : Below w.heap.size w w') : Tw A B q n T W w' sa sb g := ⟨h.a.below hb, h.b.below hb, h.row.of_block (hb.block q h.row.lt), below_then h.low hb⟩
theorem Tw.set (h : Tw A B q n T W w sa sb g) (hB : TwB A B q W) (j : Nat) (v : Value) : Tw A B q n T W (w.setCell ⟨q, j, none⟩ v) sa sb fun k => if k = j then v else g k :=
  ⟨h.a.setOther hB.qa (by have := hB.lq; have := hB.tab.1; omega) (by have := hB.lq; have := hB.tab.2; omega) _ _, h.b.setOther hB.qb (by have := hB.lq; have := hB.tab.1; omega) (by have := hB.lq; have := hB.tab.2; omega) _ _, h.row.set j v, h.low.setCell (p := ⟨q, j, none⟩) hB.lq v⟩
theorem Tw.congr (h : Tw A B q n T W w sa sb g) {g' : Nat → Value} (e : ∀ i, i < n → g i = g' i) : Tw A B q n T W w sa sb g' := ⟨h.a, h.b, h.row.congr e, h.low⟩
end
end Go.Proofs.YtiedoeifpmfbbaaDoor.A9
namespace Go.Proofs.YtiedoeifpmfbbaaDoor.A9
open Go.RowKit
open H8 (okP packV packF opA opB opC isH sizeF szT HTab below_then placeI placeI_bd place_any)

structure Pl (s : Ar) (zs : List (Int × Int)) (i : Nat) : Prop where
  le : zs.length ≤ i
  st : ∀ z ∈ zs, s.st z.1 = 1
  nd : (zs.map Prod.fst).Nodup
  mem : ∀ z ∈ zs, ∀ x, x < zN z.1 → s.mem (bN z.1 + x) = 100 * z.2 + (x : Int)
  num : ∀ z ∈ zs, 0 ≤ z.2 ∧ z.2 < 40
  bad : s.bad = false
  nw : s.nw = 512
theorem Pl.new (fr : Bool) : Pl (new9 0 512 fr) [] 0 := ⟨Nat.le_refl _, fun _ hz => (List.not_mem_nil hz).elim, List.nodup_nil, fun _ hz => (List.not_mem_nil hz).elim, fun _ hz => (List.not_mem_nil hz).elim, rfl, rfl⟩
def cutL {α : Type} (l : List α) (k : Nat) : List α := l.take k ++ l.drop (k + 1)
theorem cutL_map {α β : Type} (f : α → β) (l : List α) (k : Nat) : (cutL l k).map f = cutL (l.map f) k := by simp [cutL, List.map_take, List.map_drop]
theorem cutL_length {α : Type} {l : List α} {k : Nat} (h : k < l.length) : (cutL l k).length + 1 = l.length := by simp [cutL]; omega
theorem split_at {α : Type} {l : List α} {k : Nat} (h : k < l.length) : l = l.take k ++ (l[k] :: l.drop (k + 1)) := by rw [← List.drop_eq_getElem_cons h, List.take_append_drop]
section
variable {s : Ar} {zs : List (Int × Int)} {i : Nat}
/-- but for memory of none, and uses, the same -/
theorem Pl.alike (h : Pl s zs i) {s' : Ar} (e1 : s'.st = s.st) (e2 : s'.mem = s.mem) (e3 : s'.bad = s.bad) (e4 : s'.nw = s.nw) : Pl s' zs i :=
  ⟨h.le, fun z hz => by rw [e1]; exact h.st z hz, h.nd, fun z hz x hx => by rw [e2]; exact h.mem z hz x hx, h.num, e3.trans h.bad, e4.trans h.nw⟩
theorem Pl.more (h : Pl s zs i) : Pl s zs (i + 1) := ⟨by have := h.le; omega, h.st, h.nd, h.mem, h.num, h.bad, h.nw⟩
theorem Pl.cut (h : Pl s zs i) {k : Nat} (hk : k < zs.length) : Pl (diedS (retireS s zs[k].1) zs[k].1) (cutL zs k) (i + 1) := by
  have hsub : ∀ z, z ∈ cutL zs k → z ∈ zs ∧ z.1 ≠ zs[k].1 := by
    intro z hz
    have hs := split_at hk
    have hnd := h.nd
    rw [hs, List.map_append, List.map_cons, List.nodup_append] at hnd
    obtain ⟨-, h2, h3⟩ := hnd
    rw [List.nodup_cons] at h2
    unfold cutL at hz
    rcases List.mem_append.1 hz with h1 | h1
    · refine ⟨List.mem_of_mem_take h1, h3 _ (List.mem_map.2 ⟨z, h1, rfl⟩) _ (by simp)⟩
    · refine ⟨List.mem_of_mem_drop h1, fun e => h2.1 (List.mem_map.2 ⟨z, h1, e⟩)⟩
  refine ⟨by have := cutL_length hk; have := h.le; omega, fun z hz => ?_, ?_, fun z hz x hx => h.mem z (hsub z hz).1 x hx, fun z hz => h.num z (hsub z hz).1, h.bad, h.nw⟩
  · rw [died_st' _ (hsub z hz).2, retire_st' _ (hsub z hz).2]
    exact h.st z (hsub z hz).1
  · rw [cutL_map]
    unfold cutL
    have hs := split_at (l := zs.map Prod.fst) (k := k) (by simpa using hk)
    have hnd := h.nd
    rw [hs, List.nodup_append] at hnd
    obtain ⟨h1, h2, h3⟩ := hnd
    rw [List.nodup_cons] at h2
    exact List.nodup_append.2 ⟨h1, h2.2, fun a ha b hb => h3 a ha b (List.mem_cons_of_mem _ hb)⟩
/-- born, and its words written -/
theorem Pl.add (h : Pl s zs i) (ho : Ok9 s) {H : Int} (hb : okB s H) (hi : i < 40) {m : Nat → Int} {u : Int} (hm : ∀ x, x < zN H → m (bN H + x) = 100 * (i : Int) + (x : Int)) (hk : ∀ p, ¬ inS H p → m p = (bornS s H).mem p) : Pl (like (bornS s H) m u) (zs ++ [(H, (i : Int))]) (i + 1) := by
  have hne : ∀ z ∈ zs, z.1 ≠ H := fun z hz e => by
    have a := ho.tak z.1 (bN z.1) (by rw [h.st z hz]; decide) ⟨Nat.le_refl _, by have := zN_bd z.1; omega⟩
    rw [e, hb.2.2.2 (bN H) ⟨Nat.le_refl _, by have := zN_bd H; omega⟩] at a
    cases a
  have hap : ∀ z ∈ zs, ∀ x, x < zN z.1 → ¬ inS H (bN z.1 + x) := fun z hz x hx hp => by
    have a := ho.tak z.1 (bN z.1 + x) (by rw [h.st z hz]; decide) ⟨by omega, by omega⟩
    rw [hb.2.2.2 _ hp] at a
    cases a
  refine ⟨by have := h.le; simp; omega, fun z hz => ?_, ?_, fun z hz x hx => ?_, fun z hz => ?_, h.bad, h.nw⟩
  · rcases List.mem_append.1 hz with h1 | h1
    · show (bornS s H).st z.1 = 1
      rw [born_st' _ (hne z h1)]
      exact h.st z h1
    · simp at h1
      subst h1
      exact born_st s H
  · rw [List.map_append, List.nodup_append]
    refine ⟨h.nd, by simp, fun a ha b hb2 => ?_⟩
    obtain ⟨z, hz, rfl⟩ := List.mem_map.1 ha
    simp at hb2
    subst hb2
    exact hne z hz
  · show m (bN z.1 + x) = _
    rcases List.mem_append.1 hz with h1 | h1
    · rw [hk _ (hap z h1 x hx)]
      show (if s.fresh = true ∧ inS H (bN z.1 + x) then 0 else s.mem (bN z.1 + x)) = _
      rw [if_neg fun hq => hap z h1 x hx hq.2]
      exact h.mem z h1 x hx
    · simp at h1
      subst h1
      exact hm x hx
  · rcases List.mem_append.1 hz with h1 | h1
    · exact h.num z h1
    · simp at h1
      subst h1
      exact ⟨by simp only; omega, by simp only; omega⟩
end
end Go.Proofs.YtiedoeifpmfbbaaDoor.A9
namespace Go.Proofs.YtiedoeifpmfbbaaDoor.A9
open Go.RowKit
open H8 (okP packV packF opA opB opC isH sizeF szT HTab below_then placeI placeI_bd place_any)

def upS {α : Type} (f : Nat → α) (k : Nat) (x : α) : Nat → α := fun j => if j = k then x else f j
theorem upS_same {α : Type} (f : Nat → α) (k : Nat) (x : α) : upS f k x k = x := if_pos rfl
theorem upS_other {α : Type} (f : Nat → α) {k j : Nat} (x : α) (h : j ≠ k) : upS f k x j = f j := if_neg h
def cntS (f : Nat → Int) (y : Int) : Nat → Nat
  | 0 => 0
  | j + 1 => cntS f y j + if f j = y then 1 else 0
def cntW (f : Nat → Bool) : Nat → Nat
  | 0 => 0
  | j + 1 => cntW f j + if f j = true then 1 else 0
theorem cntS_le (f : Nat → Int) (y : Int) : ∀ n, cntS f y n ≤ n
  | 0 => Nat.le_refl _
  | n + 1 => by have := cntS_le f y n; unfold cntS; split <;> omega
theorem cntW_le (f : Nat → Bool) : ∀ n, cntW f n ≤ n
  | 0 => Nat.le_refl _
  | n + 1 => by have := cntW_le f n; unfold cntW; split <;> omega
theorem cntS_up (f : Nat → Int) (k : Nat) (x y : Int) : ∀ n, (k < n → cntS (upS f k x) y n + (if f k = y then 1 else 0) = cntS f y n + if x = y then 1 else 0) ∧ (n ≤ k → cntS (upS f k x) y n = cntS f y n)
  | 0 => ⟨by omega, fun _ => rfl⟩
  | n + 1 => by
    obtain ⟨h1, h2⟩ := cntS_up f k x y n
    refine ⟨fun h => ?_, fun h => ?_⟩
    · simp only [cntS]
      by_cases e : n = k
      · subst e
        rw [upS_same, h2 (Nat.le_refl _)]
        omega
      · rw [upS_other _ _ e]
        have := h1 (by omega)
        omega
    · simp only [cntS]
      rw [upS_other _ _ (by omega), h2 (by omega)]
theorem cntW_up (f : Nat → Bool) (k : Nat) : ∀ n, (k < n → cntW (upS f k true) n = cntW f n + if f k = true then 0 else 1) ∧ (n ≤ k → cntW (upS f k true) n = cntW f n)
  | 0 => ⟨by omega, fun _ => rfl⟩
  | n + 1 => by
    obtain ⟨h1, h2⟩ := cntW_up f k n
    refine ⟨fun h => ?_, fun h => ?_⟩
    · simp only [cntW]
      by_cases e : n = k
      · subst e
        rw [upS_same, h2 (Nat.le_refl _)]
        by_cases hf : f n = true
        · simp [hf]
        · simp [hf]
      · rw [upS_other _ _ e, h1 (by omega)]
        omega
    · simp only [cntW]
      rw [upS_other _ _ (by omega), h2 (by omega)]
def nmC (n : Nat) (c : Int) (k e : Nat) : Int := packV ((n * k : Nat) : Int) e c
/-- the size of a class -/
def szC (n : Nat) (c : Int) : Prop := 0 ≤ c ∧ c < 4 ∧ sizeF c = n
theorem szC_bd {n : Nat} {c : Int} (h : szC n c) : 8 ≤ n ∧ n ≤ 64 := by
  have := sizeF_bd h.1 h.2.1
  rw [h.2.2] at this
  omega
theorem nmC_ok {n : Nat} {c : Int} (h : szC n c) {k e : Nat} (hk : k < 8) (h1 : 1 ≤ e) (h2 : e ≤ 100) : okP ((n * k : Nat) : Int) e c := by
  have hn := szC_bd h
  have hm : n * k ≤ 64 * 8 := Nat.mul_le_mul hn.2 (by omega)
  obtain ⟨c1, c2, c3⟩ := h
  exact ⟨by omega, by omega, by omega, by omega, c1, by omega⟩
theorem nmC_at {n : Nat} {c : Int} (h : szC n c) {k e : Nat} (hk : k < 8) (h1 : 1 ≤ e) (h2 : e ≤ 100) : isH (nmC n c k e) ∧ bN (nmC n c k e) = n * k ∧ zN (nmC n c k e) = n ∧ opB (nmC n c k e) = e := by
  have ho := nmC_ok h hk h1 h2
  refine ⟨isH_pack ho, ?_, ?_, opB_pack ho⟩
  · have := bN_pack ho
    unfold nmC
    rw [this]
    omega
  · have := zN_pack ho
    unfold nmC
    rw [this, h.2.2]
    omega
theorem same_row {n k l p : Nat} (h1 : n * k ≤ p) (h2 : p < n * k + n) (h3 : n * l ≤ p) (h4 : p < n * l + n) : k = l := by
  have a : n * k < n * (l + 1) := by rw [Nat.mul_add, Nat.mul_one]; omega
  have b : n * l < n * (k + 1) := by rw [Nat.mul_add, Nat.mul_one]; omega
  have a' := Nat.lt_of_mul_lt_mul_left a
  have b' := Nat.lt_of_mul_lt_mul_left b
  omega
theorem newC_all {f : Nat → Bool} {a : Nat} {b : Bool} : ∀ {n : Nat}, (∀ p, a ≤ p → p < a + n → f p = b) → newC f a n = if b = true then 0 else n
  | 0, _ => by simp [newC]
  | n + 1, h => by
    have ih := newC_all (f := f) (a := a) (b := b) (n := n) fun p h1 h2 => h p h1 (by omega)
    have := h (a + n) (by omega) (by omega)
    simp only [newC, ih, this]
    cases b <;> simp
structure Cnt (n : Nat) (c : Int) (s : Ar) (sF : Nat → Int) (gF : Nat → Nat) (wF : Nat → Bool) : Prop where
  nw : s.nw = 512
  gen : ∀ k, k < 8 → s.gen ((n * k : Nat) : Int) = gF k
  st : ∀ k, k < 8 → s.st (nmC n c k (max (gF k) 1)) = sF k
  all : ∀ h, s.st h ≠ 0 → ∃ k, k < 8 ∧ h = nmC n c k (max (gF k) 1) ∧ sF k ≠ 0
  val : ∀ k, k < 8 → sF k = 0 ∨ sF k = 1 ∨ sF k = 2
  was : ∀ k, k < 8 → ∀ p, n * k ≤ p → p < n * k + n → s.was p = wF k
  cC : s.cC = ((n * cntW wF 8 : Nat) : Int)
  cL : s.cL = ((n * cntS sF 1 8 : Nat) : Int)
  cR : s.cR = ((n * cntS sF 2 8 : Nat) : Int)
  bad : s.bad = false
  uses : s.uses = 0
theorem Cnt.new {n : Nat} {c : Int} : Cnt n c (new9 0 512 false) (fun _ => 0) (fun _ => 0) (fun _ => false) :=
  ⟨rfl, fun _ _ => rfl, fun _ _ => rfl, fun _ hs => absurd rfl hs, fun _ _ => .inl rfl, fun _ _ _ _ _ => rfl, rfl, rfl, rfl, rfl, rfl⟩
theorem wrap_nat {x : Int} {a : Nat} (h : x = a) (ha : a ≤ 100000) : wrap64 x = (a : Nat) := by rw [h]; exact wr64_id (by omega) (by omega)
section
variable {n : Nat} {c : Int} {s : Ar} {sF : Nat → Int} {gF : Nat → Nat} {wF : Nat → Bool} {k : Nat}
theorem sums_le (sF : Nat → Int) (wF : Nat → Bool) (hc : szC n c) : n * cntW wF 8 ≤ 512 ∧ n * cntS sF 1 8 ≤ 512 ∧ n * cntS sF 2 8 ≤ 512 := by
  have hn := szC_bd hc
  have a := Nat.mul_le_mul hn.2 (cntW_le wF 8)
  have b := Nat.mul_le_mul hn.2 (cntS_le sF 1 8)
  have d := Nat.mul_le_mul hn.2 (cntS_le sF 2 8)
  omega
theorem Cnt.born_yes (h : Cnt n c s sF gF wF) (hc : szC n c) (ho : Ok9 s) (hk : k < 8) (hg : ∀ l, gF l ≤ 60) (h0 : sF k = 0) : bornA s (nmC n c k (gF k + 1)) = (bornS s (nmC n c k (gF k + 1)), true) := by
  obtain ⟨h1, h2, h3, h4⟩ := nmC_at hc hk (show 1 ≤ gF k + 1 by omega) (by have := hg k; omega)
  have hn := szC_bd hc
  have hm : n * k + n ≤ 512 := by
    have := Nat.mul_le_mul hn.2 (show k + 1 ≤ 8 by omega)
    rw [Nat.mul_add, Nat.mul_one] at this
    omega
  refine okB_of h1 (by rw [h2, h3, h.nw]; exact hm) (by rw [h2, h4, h.gen k hk]; omega) fun p hp => ?_
  cases ht : s.tak p with
  | false => rfl
  | true =>
    obtain ⟨a, ha, hq⟩ := ho.free p ht
    obtain ⟨l, hl, rfl, hs⟩ := h.all a ha
    obtain ⟨-, l2, l3, -⟩ := nmC_at hc hl (show 1 ≤ max (gF l) 1 by omega) (by have := hg l; omega)
    unfold inS at hp hq
    rw [h2, h3] at hp
    rw [l2, l3] at hq
    have := same_row hp.1 hp.2 hq.1 hq.2
    subst this
    exact absurd h0 hs
theorem Cnt.born_no (h : Cnt n c s sF gF wF) (hc : szC n c) (ho : Ok9 s) (hk : k < 8) (hg : ∀ l, gF l ≤ 60) (h0 : sF k ≠ 0) : bornA s (nmC n c k (gF k + 1)) = (s, false) := by
  obtain ⟨h1, h2, h3, h4⟩ := nmC_at hc hk (show 1 ≤ gF k + 1 by omega) (by have := hg k; omega)
  obtain ⟨-, l2, l3, -⟩ := nmC_at hc hk (show 1 ≤ max (gF k) 1 by omega) (by have := hg k; omega)
  have hn := szC_bd hc
  refine okB_no fun hb => ?_
  have a := ho.tak (nmC n c k (max (gF k) 1)) (n * k) (by rw [h.st k hk]; exact h0) ⟨by rw [l2]; exact Nat.le_refl _, by rw [l2, l3]; omega⟩
  rw [hb.2.2.2 (n * k) ⟨by rw [h2]; exact Nat.le_refl _, by rw [h2, h3]; omega⟩] at a
  cases a
theorem nmC_inj (hc : szC n c) {k l e f : Nat} (hk : k < 8) (hl : l < 8) (he : 1 ≤ e) (he2 : e ≤ 100) (hf : 1 ≤ f) (hf2 : f ≤ 100) (h : nmC n c k e = nmC n c l f) : k = l ∧ e = f := by
  have a := (nmC_at hc hk he he2).2
  have b := (nmC_at hc hl hf hf2).2
  rw [h] at a
  have e1 : n * k = n * l := a.1.symm.trans b.1
  have e2 : (e : Int) = f := a.2.2.symm.trans b.2.2
  exact ⟨Nat.eq_of_mul_eq_mul_left (by have := szC_bd hc; omega) e1, by omega⟩
theorem Cnt.born (h : Cnt n c s sF gF wF) (hc : szC n c) (hk : k < 8) (hg : ∀ l, gF l ≤ 60) (h0 : sF k = 0) : Cnt n c (bornS s (nmC n c k (gF k + 1))) (upS sF k 1) (upS gF k (gF k + 1)) (upS wF k true) := by
  obtain ⟨h1, h2, h3, h4⟩ := nmC_at hc hk (show 1 ≤ gF k + 1 by omega) (by have := hg k; omega)
  have hn := szC_bd hc
  obtain ⟨u1, u2, u3⟩ := sums_le sF wF hc
  have hne : ∀ l, l < 8 → l ≠ k → nmC n c l (max (gF l) 1) ≠ nmC n c k (gF k + 1) := fun l hl hlk e => hlk (nmC_inj hc hl hk (by omega) (by have := hg l; omega) (by omega) (by have := hg k; omega) e).1
  refine ⟨h.nw, fun l hl => ?_, fun l hl => ?_, fun a ha => ?_, fun l hl => ?_, fun l hl p p1 p2 => ?_, ?_, ?_, ?_, h.bad, h.uses⟩
  · show upI s.gen (bN _) (opB _) _ = _
    rw [h2, h4]
    by_cases e : l = k
    · subst e
      rw [upI_same, upS_same]
    · rw [upI_other _ _ (fun e2 => e (Nat.eq_of_mul_eq_mul_left (show 0 < n by omega) (by omega))), upS_other _ _ e]
      exact h.gen l hl
  · by_cases e : l = k
    · subst e
      rw [upS_same, upS_same, show max (gF l + 1) 1 = gF l + 1 by omega]
      exact born_st _ _
    · rw [upS_other _ _ e, upS_other _ _ e, born_st' _ (hne l hl e)]
      exact h.st l hl
  · by_cases e : a = nmC n c k (gF k + 1)
    · exact ⟨k, hk, by rw [upS_same, show max (gF k + 1) 1 = gF k + 1 by omega]; exact e, by rw [upS_same]; decide⟩
    · rw [born_st' _ e] at ha
      obtain ⟨l, hl, hh, hs⟩ := h.all a ha
      have hlk : l ≠ k := fun e2 => hs (by rw [e2]; exact h0)
      exact ⟨l, hl, by rw [upS_other _ _ hlk]; exact hh, by rw [upS_other _ _ hlk]; exact hs⟩
  · by_cases e : l = k
    · subst e
      rw [upS_same]; exact .inr (.inl rfl)
    · rw [upS_other _ _ e]; exact h.val l hl
  · show (if inS _ p then true else s.was p) = _
    by_cases e : l = k
    · subst e
      rw [upS_same, if_pos ⟨by rw [h2]; exact p1, by rw [h2, h3]; exact p2⟩]
    · rw [upS_other _ _ e, if_neg fun hq => e (same_row p1 p2 (by have := hq.1; rw [h2] at this; exact this) (by have := hq.2; rw [h2, h3] at this; exact this))]
      exact h.was l hl p p1 p2
  · show wrap64 (s.cC + newC s.was (bN _) (zN _)) = _
    rw [h2, h3, newC_all (h.was k hk), h.cC, (cntW_up wF k 8).1 hk]
    have := cntW_le wF 8
    by_cases hw : wF k = true
    · rw [if_pos hw, if_pos hw, Nat.add_zero]
      exact wrap_nat (by omega) (by omega)
    · rw [if_neg hw, if_neg hw]
      exact wrap_nat (by rw [Nat.mul_add]; omega) (by rw [Nat.mul_add]; omega)
  · show wrap64 (s.cL + zN _) = _
    have := (cntS_up sF k 1 1 8).1 hk
    rw [h0, if_neg (by decide), if_pos rfl] at this
    rw [h3, h.cL, show cntS (upS sF k 1) 1 8 = cntS sF 1 8 + 1 by omega]
    exact wrap_nat (by rw [Nat.mul_add]; omega) (by rw [Nat.mul_add]; omega)
  · have := (cntS_up sF k 1 2 8).1 hk
    rw [h0, if_neg (by decide), if_neg (by decide)] at this
    show s.cR = _
    rw [h.cR, show cntS (upS sF k 1) 2 8 = cntS sF 2 8 by omega]
theorem Cnt.turn (h : Cnt n c s sF gF wF) (hc : szC n c) (hk : k < 8) (hg : ∀ l, gF l ≤ 60) {x : Int} (hx : x = 0 ∨ x = 2) {s' : Ar} (e1 : s'.st = upI s.st (nmC n c k (max (gF k) 1)) x) (e2 : s'.nw = s.nw) (e3 : s'.gen = s.gen) (e4 : s'.was = s.was) (e5 : s'.cC = s.cC) (e6 : s'.bad = s.bad) (e7 : s'.uses = s.uses)
    (hL : s'.cL = ((n * cntS (upS sF k x) 1 8 : Nat) : Int)) (hR : s'.cR = ((n * cntS (upS sF k x) 2 8 : Nat) : Int)) : Cnt n c s' (upS sF k x) gF wF := by
  have hne : ∀ l, l < 8 → l ≠ k → nmC n c l (max (gF l) 1) ≠ nmC n c k (max (gF k) 1) := fun l hl hlk e => hlk (nmC_inj hc hl hk (by omega) (by have := hg l; omega) (by omega) (by have := hg k; omega) e).1
  refine ⟨e2.trans h.nw, fun l hl => by rw [e3]; exact h.gen l hl, fun l hl => ?_, fun a ha => ?_, fun l hl => ?_, fun l hl p p1 p2 => by rw [e4]; exact h.was l hl p p1 p2, e5.trans h.cC, hL, hR, e6.trans h.bad, e7.trans h.uses⟩
  · rw [e1]
    by_cases e : l = k
    · subst e
      rw [upI_same, upS_same]
    · rw [upI_other _ _ (hne l hl e), upS_other _ _ e]
      exact h.st l hl
  · rw [e1] at ha
    by_cases e : a = nmC n c k (max (gF k) 1)
    · subst e
      rw [upI_same] at ha
      exact ⟨k, hk, rfl, by rw [upS_same]; exact ha⟩
    · rw [upI_other _ _ e] at ha
      obtain ⟨l, hl, hh, hs⟩ := h.all a ha
      have hlk : l ≠ k := fun e2 => e (by rw [hh, e2])
      exact ⟨l, hl, hh, by rw [upS_other _ _ hlk]; exact hs⟩
  · by_cases e : l = k
    · subst e
      rw [upS_same]
      rcases hx with rfl | rfl
      · exact .inl rfl
      · exact .inr (.inr rfl)
    · rw [upS_other _ _ e]; exact h.val l hl
theorem Cnt.retire (h : Cnt n c s sF gF wF) (hc : szC n c) (hk : k < 8) (hg : ∀ l, gF l ≤ 60) (h1 : sF k = 1) : Cnt n c (retireS s (nmC n c k (max (gF k) 1))) (upS sF k 2) gF wF := by
  obtain ⟨-, -, h3, -⟩ := nmC_at hc hk (show 1 ≤ max (gF k) 1 by omega) (by have := hg k; omega)
  obtain ⟨u1, u2, u3⟩ := sums_le sF wF hc
  have hn := szC_bd hc
  have a1 := (cntS_up sF k 2 1 8).1 hk
  have a2 := (cntS_up sF k 2 2 8).1 hk
  rw [h1, if_pos rfl, if_neg (by decide)] at a1
  rw [h1, if_neg (by decide), if_pos rfl] at a2
  have m1 : n * cntS sF 1 8 = n * cntS (upS sF k 2) 1 8 + n := by rw [show cntS sF 1 8 = cntS (upS sF k 2) 1 8 + 1 by omega, Nat.mul_add, Nat.mul_one]
  have m2 : n * cntS (upS sF k 2) 2 8 = n * cntS sF 2 8 + n := by rw [show cntS (upS sF k 2) 2 8 = cntS sF 2 8 + 1 by omega, Nat.mul_add, Nat.mul_one]
  refine h.turn hc hk hg (.inr rfl) rfl rfl rfl rfl rfl rfl rfl ?_ ?_
  · show wrap64 (s.cL - zN _) = _
    rw [h3, h.cL]
    exact wrap_nat (by omega) (by omega)
  · show wrap64 (s.cR + zN _) = _
    rw [h3, h.cR]
    exact wrap_nat (by omega) (by omega)
theorem Cnt.died (h : Cnt n c s sF gF wF) (hc : szC n c) (hk : k < 8) (hg : ∀ l, gF l ≤ 60) (h1 : sF k = 2) : Cnt n c (diedS s (nmC n c k (max (gF k) 1))) (upS sF k 0) gF wF := by
  obtain ⟨-, -, h3, -⟩ := nmC_at hc hk (show 1 ≤ max (gF k) 1 by omega) (by have := hg k; omega)
  obtain ⟨u1, u2, u3⟩ := sums_le sF wF hc
  have hn := szC_bd hc
  have a1 := (cntS_up sF k 0 1 8).1 hk
  have a2 := (cntS_up sF k 0 2 8).1 hk
  rw [h1, if_neg (by decide), if_neg (by decide)] at a1
  rw [h1, if_pos rfl, if_neg (by decide)] at a2
  have m2 : n * cntS sF 2 8 = n * cntS (upS sF k 0) 2 8 + n := by rw [show cntS sF 2 8 = cntS (upS sF k 0) 2 8 + 1 by omega, Nat.mul_add, Nat.mul_one]
  refine h.turn hc hk hg (.inl rfl) rfl rfl rfl rfl rfl rfl rfl ?_ ?_
  · show s.cL = _
    rw [h.cL, show cntS (upS sF k 0) 1 8 = cntS sF 1 8 by omega]
  · show wrap64 (s.cR - zN _) = _
    rw [h3, h.cR]
    exact wrap_nat (by omega) (by omega)
end
end Go.Proofs.YtiedoeifpmfbbaaDoor.A9
