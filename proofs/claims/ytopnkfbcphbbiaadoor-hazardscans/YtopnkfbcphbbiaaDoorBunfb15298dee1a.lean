/-
  Helpers: A9ArO.
-/
import Derived.Test.YtopnkfbcphbbiaaDoorBun7f170c045c6e
namespace Go.Proofs.YtopnkfbcphbbiaaDoor.A9
open Go.RowKit
open H8 (okP packV packF opA opB opC isH sizeF szT HTab below_then placeI placeI_bd place_any)

def upS {α : Type} (f : Nat → α) (k : Nat) (x : α) : Nat → α := fun j => if j = k then x else f j
theorem upS_same {α : Type} (f : Nat → α) (k : Nat) (x : α) : upS f k x k = x := if_pos rfl
theorem upS_other {α : Type} (f : Nat → α) {k j : Nat} (x : α) (h : j ≠ k) : upS f k x j = f j := if_neg h
def cntS (f : Nat → Int) (y : Int) : Nat → Nat
  | 0 => 0
  | j + 1 => cntS f y j + if f j = y then 1 else 0
def cntW (f : Nat → Bool) : Nat → Nat
  | 0 => 0
  | j + 1 => cntW f j + if f j = true then 1 else 0
theorem cntS_le (f : Nat → Int) (y : Int) : ∀ n, cntS f y n ≤ n
  | 0 => Nat.le_refl _
  | n + 1 => by have := cntS_le f y n; unfold cntS; split <;> omega
theorem cntW_le (f : Nat → Bool) : ∀ n, cntW f n ≤ n
  | 0 => Nat.le_refl _
  | n + 1 => by have := cntW_le f n; unfold cntW; split <;> omega
theorem cntS_up (f : Nat → Int) (k : Nat) (x y : Int) : ∀ n, (k < n → cntS (upS f k x) y n + (if f k = y then 1 else 0) = cntS f y n + if x = y then 1 else 0) ∧ (n ≤ k → cntS (upS f k x) y n = cntS f y n)
  | 0 => ⟨by omega, fun _ => rfl⟩
  | n + 1 => by
    obtain ⟨h1, h2⟩ := cntS_up f k x y n
    refine ⟨fun h => ?_, fun h => ?_⟩
    · simp only [cntS]
      by_cases e : n = k
      · subst e
        rw [upS_same, h2 (Nat.le_refl _)]
        omega
      · rw [upS_other _ _ e]
        have := h1 (by omega)
        omega
    · simp only [cntS]
      rw [upS_other _ _ (by omega), h2 (by omega)]
theorem cntW_up (f : Nat → Bool) (k : Nat) : ∀ n, (k < n → cntW (upS f k true) n = cntW f n + if f k = true then 0 else 1) ∧ (n ≤ k → cntW (upS f k true) n = cntW f n)
  | 0 => ⟨by omega, fun _ => rfl⟩
  | n + 1 => by
    obtain ⟨h1, h2⟩ := cntW_up f k n
    refine ⟨fun h => ?_, fun h => ?_⟩
    · simp only [cntW]
      by_cases e : n = k
      · subst e
        rw [upS_same, h2 (Nat.le_refl _)]
        by_cases hf : f n = true
        · simp [hf]
        · simp [hf]
      · rw [upS_other _ _ e, h1 (by omega)]
        omega
    · simp only [cntW]
      rw [upS_other _ _ (by omega), h2 (by omega)]
def nmC (n : Nat) (c : Int) (k e : Nat) : Int := packV ((n * k : Nat) : Int) e c
/-- the size of a class -/
def szC (n : Nat) (c : Int) : Prop := 0 ≤ c ∧ c < 4 ∧ sizeF c = n
theorem szC_bd {n : Nat} {c : Int} (h : szC n c) : 8 ≤ n ∧ n ≤ 64 := by
  have := sizeF_bd h.1 h.2.1
  rw [h.2.2] at this
  omega
theorem nmC_ok {n : Nat} {c : Int} (h : szC n c) {k e : Nat} (hk : k < 8) (h1 : 1 ≤ e) (h2 : e ≤ 100) : okP ((n * k : Nat) : Int) e c := by
  have hn := szC_bd h
  have hm : n * k ≤ 64 * 8 := Nat.mul_le_mul hn.2 (by omega)
  obtain ⟨c1, c2, c3⟩ := h
  exact ⟨by omega, by omega, by omega, by omega, c1, by omega⟩
theorem nmC_at {n : Nat} {c : Int} (h : szC n c) {k e : Nat} (hk : k < 8) (h1 : 1 ≤ e) (h2 : e ≤ 100) : isH (nmC n c k e) ∧ bN (nmC n c k e) = n * k ∧ zN (nmC n c k e) = n ∧ opB (nmC n c k e) = e := by
  have ho := nmC_ok h hk h1 h2
  refine ⟨isH_pack ho, ?_, ?_, opB_pack ho⟩
  · have := bN_pack ho
    unfold nmC
    rw [this]
    omega
  · have := zN_pack ho
    unfold nmC
    rw [this, h.2.2]
    omega
theorem same_row {n k l p : Nat} (h1 : n * k ≤ p) (h2 : p < n * k + n) (h3 : n * l ≤ p) (h4 : p < n * l + n) : k = l := by
  have a : n * k < n * (l + 1) := by rw [Nat.mul_add, Nat.mul_one]; omega
  have b : n * l < n * (k + 1) := by rw [Nat.mul_add, Nat.mul_one]; omega
  have a' := Nat.lt_of_mul_lt_mul_left a
  have b' := Nat.lt_of_mul_lt_mul_left b
  omega
theorem newC_all {f : Nat → Bool} {a : Nat} {b : Bool} : ∀ {n : Nat}, (∀ p, a ≤ p → p < a + n → f p = b) → newC f a n = if b = true then 0 else n
  | 0, _ => by simp [newC]
  | n + 1, h => by
    have ih := newC_all (f := f) (a := a) (b := b) (n := n) fun p h1 h2 => h p h1 (by omega)
    have := h (a + n) (by omega) (by omega)
    simp only [newC, ih, this]
    cases b <;> simp
structure Cnt (n : Nat) (c : Int) (s : Ar) (sF : Nat → Int) (gF : Nat → Nat) (wF : Nat → Bool) : Prop where
  nw : s.nw = 512
  gen : ∀ k, k < 8 → s.gen ((n * k : Nat) : Int) = gF k
  st : ∀ k, k < 8 → s.st (nmC n c k (max (gF k) 1)) = sF k
  all : ∀ h, s.st h ≠ 0 → ∃ k, k < 8 ∧ h = nmC n c k (max (gF k) 1) ∧ sF k ≠ 0
  val : ∀ k, k < 8 → sF k = 0 ∨ sF k = 1 ∨ sF k = 2
  was : ∀ k, k < 8 → ∀ p, n * k ≤ p → p < n * k + n → s.was p = wF k
  cC : s.cC = ((n * cntW wF 8 : Nat) : Int)
  cL : s.cL = ((n * cntS sF 1 8 : Nat) : Int)
  cR : s.cR = ((n * cntS sF 2 8 : Nat) : Int)
  bad : s.bad = false
  uses : s.uses = 0
theorem Cnt.new {n : Nat} {c : Int} : Cnt n c (new9 0 512 false) (fun _ => 0) (fun _ => 0) (fun _ => false) :=
  ⟨rfl, fun _ _ => rfl, fun _ _ => rfl, fun _ hs => absurd rfl hs, fun _ _ => .inl rfl, fun _ _ _ _ _ => rfl, rfl, rfl, rfl, rfl, rfl⟩
theorem wrap_nat {x : Int} {a : Nat} (h : x = a) (ha : a ≤ 100000) : wrap64 x = (a : Nat) := by rw [h]; exact wr64_id (by omega) (by omega)
section
variable {n : Nat} {c : Int} {s : Ar} {sF : Nat → Int} {gF : Nat → Nat} {wF : Nat → Bool} {k : Nat}
theorem sums_le (sF : Nat → Int) (wF : Nat → Bool) (hc : szC n c) : n * cntW wF 8 ≤ 512 ∧ n * cntS sF 1 8 ≤ 512 ∧ n * cntS sF 2 8 ≤ 512 := by
  have hn := szC_bd hc
  have a := Nat.mul_le_mul hn.2 (cntW_le wF 8)
  have b := Nat.mul_le_mul hn.2 (cntS_le sF 1 8)
  have d := Nat.mul_le_mul hn.2 (cntS_le sF 2 8)
  omega
theorem Cnt.born_yes (h : Cnt n c s sF gF wF) (hc : szC n c) (ho : Ok9 s) (hk : k < 8) (hg : ∀ l, gF l ≤ 60) (h0 : sF k = 0) : bornA s (nmC n c k (gF k + 1)) = (bornS s (nmC n c k (gF k + 1)), true) := by
  obtain ⟨h1, h2, h3, h4⟩ := nmC_at hc hk (show 1 ≤ gF k + 1 by omega) (by have := hg k; omega)
  have hn := szC_bd hc
  have hm : n * k + n ≤ 512 := by
    have := Nat.mul_le_mul hn.2 (show k + 1 ≤ 8 by omega)
    rw [Nat.mul_add, Nat.mul_one] at this
    omega
  refine okB_of h1 (by rw [h2, h3, h.nw]; exact hm) (by rw [h2, h4, h.gen k hk]; omega) fun p hp => ?_
  cases ht : s.tak p with
  | false => rfl
  | true =>
    obtain ⟨a, ha, hq⟩ := ho.free p ht
    obtain ⟨l, hl, rfl, hs⟩ := h.all a ha
    obtain ⟨-, l2, l3, -⟩ := nmC_at hc hl (show 1 ≤ max (gF l) 1 by omega) (by have := hg l; omega)
    unfold inS at hp hq
    rw [h2, h3] at hp
    rw [l2, l3] at hq
    have := same_row hp.1 hp.2 hq.1 hq.2
    subst this
    exact absurd h0 hs
theorem Cnt.born_no (h : Cnt n c s sF gF wF) (hc : szC n c) (ho : Ok9 s) (hk : k < 8) (hg : ∀ l, gF l ≤ 60) (h0 : sF k ≠ 0) : bornA s (nmC n c k (gF k + 1)) = (s, false) := by
  obtain ⟨h1, h2, h3, h4⟩ := nmC_at hc hk (show 1 ≤ gF k + 1 by omega) (by have := hg k; omega)
  obtain ⟨-, l2, l3, -⟩ := nmC_at hc hk (show 1 ≤ max (gF k) 1 by omega) (by have := hg k; omega)
  have hn := szC_bd hc
  refine okB_no fun hb => ?_
  have a := ho.tak (nmC n c k (max (gF k) 1)) (n * k) (by rw [h.st k hk]; exact h0) ⟨by rw [l2]; exact Nat.le_refl _, by rw [l2, l3]; omega⟩
  rw [hb.2.2.2 (n * k) ⟨by rw [h2]; exact Nat.le_refl _, by rw [h2, h3]; omega⟩] at a
  cases a
theorem nmC_inj (hc : szC n c) {k l e f : Nat} (hk : k < 8) (hl : l < 8) (he : 1 ≤ e) (he2 : e ≤ 100) (hf : 1 ≤ f) (hf2 : f ≤ 100) (h : nmC n c k e = nmC n c l f) : k = l ∧ e = f := by
  have a := (nmC_at hc hk he he2).2
  have b := (nmC_at hc hl hf hf2).2
  rw [h] at a
  have e1 : n * k = n * l := a.1.symm.trans b.1
  have e2 : (e : Int) = f := a.2.2.symm.trans b.2.2
  exact ⟨Nat.eq_of_mul_eq_mul_left (by have := szC_bd hc; omega) e1, by omega⟩
theorem Cnt.born (h : Cnt n c s sF gF wF) (hc : szC n c) (hk : k < 8) (hg : ∀ l, gF l ≤ 60) (h0 : sF k = 0) : Cnt n c (bornS s (nmC n c k (gF k + 1))) (upS sF k 1) (upS gF k (gF k + 1)) (upS wF k true) := by
  obtain ⟨h1, h2, h3, h4⟩ := nmC_at hc hk (show 1 ≤ gF k + 1 by omega) (by have := hg k; omega)
  have hn := szC_bd hc
  obtain ⟨u1, u2, u3⟩ := sums_le sF wF hc
  have hne : ∀ l, l < 8 → l ≠ k → nmC n c l (max (gF l) 1) ≠ nmC n c k (gF k + 1) := fun l hl hlk e => hlk (nmC_inj hc hl hk (by omega) (by have := hg l; omega) (by omega) (by have := hg k; omega) e).1
  refine ⟨h.nw, fun l hl => ?_, fun l hl => ?_, fun a ha => ?_, fun l hl => ?_, fun l hl p p1 p2 => ?_, ?_, ?_, ?_, h.bad, h.uses⟩
  · show upI s.gen (bN _) (opB _) _ = _
    rw [h2, h4]
    by_cases e : l = k
    · subst e
      rw [upI_same, upS_same]
    · rw [upI_other _ _ (fun e2 => e (Nat.eq_of_mul_eq_mul_left (show 0 < n by omega) (by omega))), upS_other _ _ e]
      exact h.gen l hl
  · by_cases e : l = k
    · subst e
      rw [upS_same, upS_same, show max (gF l + 1) 1 = gF l + 1 by omega]
      exact born_st _ _
    · rw [upS_other _ _ e, upS_other _ _ e, born_st' _ (hne l hl e)]
      exact h.st l hl
  · by_cases e : a = nmC n c k (gF k + 1)
    · exact ⟨k, hk, by rw [upS_same, show max (gF k + 1) 1 = gF k + 1 by omega]; exact e, by rw [upS_same]; decide⟩
    · rw [born_st' _ e] at ha
      obtain ⟨l, hl, hh, hs⟩ := h.all a ha
      have hlk : l ≠ k := fun e2 => hs (by rw [e2]; exact h0)
      exact ⟨l, hl, by rw [upS_other _ _ hlk]; exact hh, by rw [upS_other _ _ hlk]; exact hs⟩
  · by_cases e : l = k
    · subst e
      rw [upS_same]; exact .inr (.inl rfl)
    · rw [upS_other _ _ e]; exact h.val l hl
  · show (if inS _ p then true else s.was p) = _
    by_cases e : l = k
    · subst e
      rw [upS_same, if_pos ⟨by rw [h2]; exact p1, by rw [h2, h3]; exact p2⟩]
    · rw [upS_other _ _ e, if_neg fun hq => e (same_row p1 p2 (by have := hq.1; rw [h2] at this; exact this) (by have := hq.2; rw [h2, h3] at this; exact this))]
      exact h.was l hl p p1 p2
  · show wrap64 (s.cC + newC s.was (bN _) (zN _)) = _
    rw [h2, h3, newC_all (h.was k hk), h.cC, (cntW_up wF k 8).1 hk]
    have := cntW_le wF 8
    by_cases hw : wF k = true
    · rw [if_pos hw, if_pos hw, Nat.add_zero]
      exact wrap_nat (by omega) (by omega)
    · rw [if_neg hw, if_neg hw]
      exact wrap_nat (by rw [Nat.mul_add]; omega) (by rw [Nat.mul_add]; omega)
  · show wrap64 (s.cL + zN _) = _
    have := (cntS_up sF k 1 1 8).1 hk
    rw [h0, if_neg (by decide), if_pos rfl] at this
    rw [h3, h.cL, show cntS (upS sF k 1) 1 8 = cntS sF 1 8 + 1 by omega]
    exact wrap_nat (by rw [Nat.mul_add]; omega) (by rw [Nat.mul_add]; omega)
  · have := (cntS_up sF k 1 2 8).1 hk
    rw [h0, if_neg (by decide), if_neg (by decide)] at this
    show s.cR = _
    rw [h.cR, show cntS (upS sF k 1) 2 8 = cntS sF 2 8 by omega]
theorem Cnt.turn (h : Cnt n c s sF gF wF) (hc : szC n c) (hk : k < 8) (hg : ∀ l, gF l ≤ 60) {x : Int} (hx : x = 0 ∨ x = 2) {s' : Ar} (e1 : s'.st = upI s.st (nmC n c k (max (gF k) 1)) x) (e2 : s'.nw = s.nw) (e3 : s'.gen = s.gen) (e4 : s'.was = s.was) (e5 : s'.cC = s.cC) (e6 : s'.bad = s.bad) (e7 : s'.uses = s.uses)
    (hL : s'.cL = ((n * cntS (upS sF k x) 1 8 : Nat) : Int)) (hR : s'.cR = ((n * cntS (upS sF k x) 2 8 : Nat) : Int)) : Cnt n c s' (upS sF k x) gF wF := by
  have hne : ∀ l, l < 8 → l ≠ k → nmC n c l (max (gF l) 1) ≠ nmC n c k (max (gF k) 1) := fun l hl hlk e => hlk (nmC_inj hc hl hk (by omega) (by have := hg l; omega) (by omega) (by have := hg k; omega) e).1
  refine ⟨e2.trans h.nw, fun l hl => by rw [e3]; exact h.gen l hl, fun l hl => ?_, fun a ha => ?_, fun l hl => ?_, fun l hl p p1 p2 => by rw [e4]; exact h.was l hl p p1 p2, e5.trans h.cC, hL, hR, e6.trans h.bad, e7.trans h.uses⟩
  · rw [e1]
    by_cases e : l = k
    · subst e
      rw [upI_same, upS_same]
    · rw [upI_other _ _ (hne l hl e), upS_other _ _ e]
      exact h.st l hl
  · rw [e1] at ha
    by_cases e : a = nmC n c k (max (gF k) 1)
    · subst e
      rw [upI_same] at ha
      exact ⟨k, hk, rfl, by rw [upS_same]; exact ha⟩
    · rw [upI_other _ _ e] at ha
      obtain ⟨l, hl, hh, hs⟩ := h.all a ha
      have hlk : l ≠ k := fun e2 => e (by rw [hh, e2])
      exact ⟨l, hl, hh, by rw [upS_other _ _ hlk]; exact hs⟩
  · by_cases e : l = k
    · subst e
      rw [upS_same]
      rcases hx with rfl | rfl
      · exact .inl rfl
      · exact .inr (.inr rfl)
    · rw [upS_other _ _ e]; exact h.val l hl
theorem Cnt.retire (h : Cnt n c s sF gF wF) (hc : szC n c) (hk : k < 8) (hg : ∀ l, gF l ≤ 60) (h1 : sF k = 1) : Cnt n c (retireS s (nmC n c k (max (gF k) 1))) (upS sF k 2) gF wF := by
  obtain ⟨-, -, h3, -⟩ := nmC_at hc hk (show 1 ≤ max (gF k) 1 by omega) (by have := hg k; omega)
  obtain ⟨u1, u2, u3⟩ := sums_le sF wF hc
  have hn := szC_bd hc
  have a1 := (cntS_up sF k 2 1 8).1 hk
  have a2 := (cntS_up sF k 2 2 8).1 hk
  rw [h1, if_pos rfl, if_neg (by decide)] at a1
  rw [h1, if_neg (by decide), if_pos rfl] at a2
  have m1 : n * cntS sF 1 8 = n * cntS (upS sF k 2) 1 8 + n := by rw [show cntS sF 1 8 = cntS (upS sF k 2) 1 8 + 1 by omega, Nat.mul_add, Nat.mul_one]
  have m2 : n * cntS (upS sF k 2) 2 8 = n * cntS sF 2 8 + n := by rw [show cntS (upS sF k 2) 2 8 = cntS sF 2 8 + 1 by omega, Nat.mul_add, Nat.mul_one]
  refine h.turn hc hk hg (.inr rfl) rfl rfl rfl rfl rfl rfl rfl ?_ ?_
  · show wrap64 (s.cL - zN _) = _
    rw [h3, h.cL]
    exact wrap_nat (by omega) (by omega)
  · show wrap64 (s.cR + zN _) = _
    rw [h3, h.cR]
    exact wrap_nat (by omega) (by omega)
theorem Cnt.died (h : Cnt n c s sF gF wF) (hc : szC n c) (hk : k < 8) (hg : ∀ l, gF l ≤ 60) (h1 : sF k = 2) : Cnt n c (diedS s (nmC n c k (max (gF k) 1))) (upS sF k 0) gF wF := by
  obtain ⟨-, -, h3, -⟩ := nmC_at hc hk (show 1 ≤ max (gF k) 1 by omega) (by have := hg k; omega)
  obtain ⟨u1, u2, u3⟩ := sums_le sF wF hc
  have hn := szC_bd hc
  have a1 := (cntS_up sF k 0 1 8).1 hk
  have a2 := (cntS_up sF k 0 2 8).1 hk
  rw [h1, if_neg (by decide), if_neg (by decide)] at a1
  rw [h1, if_pos rfl, if_neg (by decide)] at a2
  have m2 : n * cntS sF 2 8 = n * cntS (upS sF k 0) 2 8 + n := by rw [show cntS sF 2 8 = cntS (upS sF k 0) 2 8 + 1 by omega, Nat.mul_add, Nat.mul_one]
  refine h.turn hc hk hg (.inl rfl) rfl rfl rfl rfl rfl rfl rfl ?_ ?_
  · show s.cL = _
    rw [h.cL, show cntS (upS sF k 0) 1 8 = cntS sF 1 8 by omega]
  · show wrap64 (s.cR - zN _) = _
    rw [h3, h.cR]
    exact wrap_nat (by omega) (by omega)
end
end Go.Proofs.YtopnkfbcphbbiaaDoor.A9
