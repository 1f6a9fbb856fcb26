/-
  Helpers: FxP.
-/
import Derived.Test.YtfljoedjnigfjaaBuna75fe8cbcebc
namespace Go.Proofs.Ytfljoedjnigfjaa
open Go.RowKit
open A9 (Ab ArAt ArMem FrA Ar rawA setRawA swapRawA useA inR)

def mxP : Pl5 := ⟨4, 0, 16, 48, 80⟩
/-- a machine in its box is what is remembered of it -/
def PuT (m : Pu) (t : Tn) : Prop := t.word = 6 ∧ t.ph = m.ph ∧ (m.ph = 1 ∨ m.ph = 2 → t.h = m.h) ∧ (m.ph = 2 → t.m = (m.b : Int) + 1)
def PoT (m : Po) (t : Tn) : Prop := t.word = 6 ∧ t.ph = m.ph ∧ (m.ph = 1 ∨ m.ph = 2 → t.h = m.h) ∧ (m.ph = 2 → t.m = m.nx)
/-- the lists' words and the actors, at one time; tags up to T -/
structure Mix (k : Nat) (s : Ar) (own : Nat → List Nat) (pu : Nat → Option Pu) (po : Nat → Option Po) (T : Nat) : Prop where
  ex : ∃ hd lk ls, RwL 16 32 s hd lk ∧ Mx 32 k own pu po (hd 6) lk ls ∧ tagF (hd 6) ≤ T
theorem Mix.used {k : Nat} {s : Ar} {own : Nat → List Nat} {pu : Nat → Option Pu} {po : Nat → Option Po} {T : Nat} (h : Mix k s own pu po T) (u : Int) : Mix k (usedA s u) own pu po T := by
  obtain ⟨hd, lk, ls, h1, h2, h3⟩ := h.ex
  exact ⟨hd, lk, ls, ⟨h1.fit, h1.big, h1.hds, h1.lks⟩, h2, h3⟩
theorem Mix.wide {k : Nat} {s : Ar} {own : Nat → List Nat} {pu : Nat → Option Pu} {po : Nat → Option Po} {T T' : Nat} (h : Mix k s own pu po T) (hT : T ≤ T') : Mix k s own pu po T' := by
  obtain ⟨hd, lk, ls, h1, h2, h3⟩ := h.ex
  exact ⟨hd, lk, ls, h1, h2, by omega⟩
/-- how many steps more, if nobody else goes -/
def rkP (h : Int) (m : Pu) : Nat := if m.ph = 0 then 3 else if m.ph = 1 then (if m.h = h then 2 else 5) else if m.h = h then 1 else 4
def rkQ (h : Int) (m : Po) : Nat := if m.ph = 0 then 3 else if m.ph = 1 then (if m.h = h then 2 else 5) else if m.h = h then 1 else 4
theorem rkP_bd (h : Int) (m : Pu) : 1 ≤ rkP h m ∧ rkP h m ≤ 5 := by
  unfold rkP
  split
  · omega
  · split
    · split <;> omega
    · split <;> omega
theorem rkQ_bd (h : Int) (m : Po) : 1 ≤ rkQ h m ∧ rkQ h m ≤ 5 := by
  unfold rkQ
  split
  · omega
  · split
    · split <;> omega
    · split <;> omega
/-- what a push's step leaves -/
structure PuO (k : Nat) (s : Ar) (own : Nat → List Nat) (pu : Nat → Option Pu) (po : Nat → Option Po) (T w : Nat) (m : Pu) (r : Ar × Tn × Bool) : Prop where
  us : r.1.uses = wrap64 (s.uses + 1)
  bd : r.1.bad = s.bad
  go : r.2.2 = false → ∃ m', m'.b = m.b ∧ rkP (r.1.raw 6) m' < rkP (s.raw 6) m ∧ PuT m' r.2.1 ∧ Mix k r.1 own (upO pu w (some m')) po (T + 1)
  en : r.2.2 = true → Mix k r.1 own (upO pu w none) po (T + 1)
theorem upO_self {α : Type} (f : Nat → α) (w : Nat) (v : α) (h : f w = v) : upO f w v = f := by
  funext j
  unfold upO
  split
  · rename_i e
    rw [e, h]
  · rfl
theorem push_step {k : Nat} {s : Ar} {own : Nat → List Nat} {pu : Nat → Option Pu} {po : Nat → Option Po} {T w : Nat} (h : Mix k s own pu po T) (hT : T ≤ 1000000) (hw : w < k) {m : Pu} (hm : pu w = some m) {t : Tn} (ht : PuT m t) : PuO k s own pu po T w m (puStep mxP ((m.b : Int) + 1) s t) := by
  obtain ⟨hd, lk, ls, hR, hX, htg⟩ := h.ex
  have hk := hX.P w hw m hm
  obtain ⟨hb, h12, h2, hph⟩ := hk
  obtain ⟨word, ph, hh, mk⟩ := t
  obtain ⟨e1, e2, e3, e4⟩ := ht
  simp only at e1 e2 e3 e4
  subst e1 e2
  have hr6 := hR.hds 6 (by omega)
  rcases (by omega : m.ph = 0 ∨ m.ph = 1 ∨ m.ph = 2) with h0 | h1 | h2'
  · have e : puStep mxP ((m.b : Int) + 1) s ⟨6, (m.ph : Int), hh, mk⟩ = (useA s, ⟨6, 1, hd 6, mk⟩, false) := by
      rw [h0]
      exact pu_read (k := 6) hR (by omega) mk hh _
    rw [e]
    refine ⟨rfl, rfl, fun _ => ⟨⟨m.b, 1, hd 6⟩, rfl, by show rkP (s.raw 6) _ < _; rw [hr6]; simp [rkP, h0], ⟨rfl, rfl, fun _ => rfl, fun x => by simp at x⟩, ⟨hd, lk, ls, hR.use, ?_, by omega⟩⟩, fun x => by simp at x⟩
    exact hX.pushPh hw hm rfl ⟨hb, fun _ => ⟨Old.now _, hX.L.cod⟩, fun x => by simp at x, by simp⟩
  · have e : puStep mxP ((m.b : Int) + 1) s ⟨6, (m.ph : Int), hh, mk⟩ = (linkS 16 s m.b (codF m.h), ⟨6, 2, m.h, (m.b : Int) + 1⟩, false) := by
      rw [h1, e3 (.inl h1)]
      exact pu_link (k := 6) hR ⟨rfl, rfl⟩ hb mk m.h
    rw [e]
    refine ⟨rfl, rfl, fun _ => ⟨⟨m.b, 2, m.h⟩, rfl, by show rkP (A9.upN s.raw (16 + m.b) _ 6) _ < _; rw [A9.upN_other _ _ (by omega)]; by_cases e6 : m.h = s.raw 6 <;> simp [rkP, h1, e6], ⟨rfl, rfl, fun _ => rfl, fun _ => rfl⟩, ⟨hd, _, ls, hR.link m.b _, hX.pushLink hw hm h1, by omega⟩⟩, fun x => by simp at x⟩
  · have eh := e3 (.inr h2')
    have em := e4 h2'
    have e : puStep mxP ((m.b : Int) + 1) s ⟨6, (m.ph : Int), hh, mk⟩ = if hd 6 = m.h then (headS s 6 (trnF m.h ((m.b : Int) + 1)), ⟨6, 3, m.h, (m.b : Int) + 1⟩, true) else (useA s, ⟨6, 0, m.h, (m.b : Int) + 1⟩, false) := by
      rw [h2', eh, em]
      exact pu_swap (k := 6) hR (by omega) _ _ _
    rw [e]
    by_cases hs : hd 6 = m.h
    · rw [if_pos hs]
      have hg := hX.pushGo (by omega) hw hm h2' hs.symm
      have ht0 := hX.L.tag
      have et : trnF m.h ((m.b : Int) + 1) = mkF (tagF (hd 6) + 1) ((m.b : Int) + 1) := by
        rw [← hs]
        exact trnF_eq ht0 (by omega) (by omega) (by omega)
      refine ⟨rfl, rfl, fun x => by simp at x, fun _ => ⟨upH hd 6 (mkF (tagF (hd 6) + 1) ((m.b : Int) + 1)), lk, m.b :: ls, by rw [et]; exact hR.head (by omega) _, by rw [upH_same]; exact hg, by rw [upH_same, tag_mk (by omega) (by omega)]; omega⟩⟩
    · rw [if_neg hs]
      refine ⟨rfl, rfl, fun _ => ⟨⟨m.b, 0, m.h⟩, rfl, by show rkP (s.raw 6) _ < _; rw [hr6]; simp [rkP, h2', Ne.symm hs], ⟨rfl, rfl, fun x => by simp at x, fun x => by simp at x⟩, ⟨hd, lk, ls, hR.use, hX.pushPh hw hm rfl ⟨hb, fun x => by simp at x, fun x => by simp at x, by simp⟩, by omega⟩⟩, fun x => by simp at x⟩
/-- what a pop's step leaves -/
structure PoO (k : Nat) (s : Ar) (own : Nat → List Nat) (pu : Nat → Option Pu) (po : Nat → Option Po) (T w : Nat) (m : Po) (r : Ar × Tn × Bool) : Prop where
  us : r.1.uses = wrap64 (s.uses + 1)
  bd : r.1.bad = s.bad
  go : r.2.2 = false → ∃ m', rkQ (r.1.raw 6) m' < rkQ (s.raw 6) m ∧ PoT m' r.2.1 ∧ Mix k r.1 own pu (upO po w (some m')) (T + 1)
  en : r.2.2 = true → (baseF r.2.1 = (0, false) ∧ Mix k r.1 own pu (upO po w none) (T + 1)) ∨ ∃ b : Nat, b < 32 ∧ baseF r.2.1 = (8 * (b : Int), true) ∧ Mix k r.1 (upO own w (own w ++ [b])) pu (upO po w none) (T + 1)
theorem pop_step {k : Nat} {s : Ar} {own : Nat → List Nat} {pu : Nat → Option Pu} {po : Nat → Option Po} {T w : Nat} (h : Mix k s own pu po T) (hT : T ≤ 1000000) (hw : w < k) {m : Po} (hm : po w = some m) {t : Tn} (ht : PoT m t) : PoO k s own pu po T w m (poStep mxP s t) := by
  obtain ⟨hd, lk, ls, hR, hX, htg⟩ := h.ex
  have hk := hX.Q w hw m hm
  obtain ⟨h12, h2, hph⟩ := hk
  obtain ⟨word, ph, hh, mk⟩ := t
  obtain ⟨e1, e2, e3, e4⟩ := ht
  simp only at e1 e2 e3 e4
  subst e1 e2
  have hc := hX.L.cod
  have hcb := cod_bd (hd 6)
  have hr6 := hR.hds 6 (by omega)
  rcases (by omega : m.ph = 0 ∨ m.ph = 1 ∨ m.ph = 2) with h0 | h1 | h2'
  · have e : poStep mxP s ⟨6, (m.ph : Int), hh, mk⟩ = if codF (hd 6) = 0 then (useA s, ⟨6, 3, hd 6, mk⟩, true) else (useA s, ⟨6, 1, hd 6, mk⟩, false) := by
      rw [h0]
      exact po_read (k := 6) hR (by omega) mk hh
    rw [e]
    by_cases hz : codF (hd 6) = 0
    · rw [if_pos hz]
      refine ⟨rfl, rfl, fun x => by simp at x, fun _ => .inl ⟨?_, ⟨hd, lk, ls, hR.use, hX.popPh (fun m' hm' => by cases hm'), by omega⟩⟩⟩
      unfold baseF
      rw [if_neg (by simp [hz])]
    · rw [if_neg hz]
      exact ⟨rfl, rfl, fun _ => ⟨⟨1, hd 6, 0⟩, by show rkQ (s.raw 6) _ < _; rw [hr6]; simp [rkQ, h0], ⟨rfl, rfl, fun _ => rfl, fun x => by simp at x⟩, ⟨hd, lk, ls, hR.use, hX.popPh (fun m' hm' => by cases hm'; exact ⟨fun _ => ⟨Old.now _, hz, hc⟩, fun x => by simp at x, by simp⟩), by omega⟩⟩, fun x => by simp at x⟩
  · obtain ⟨o1, o2, o3⟩ := h12 (.inl h1)
    have hmb := cod_bd m.h
    obtain ⟨b, hb⟩ : ∃ b : Nat, codF m.h = (b : Int) + 1 := ⟨(codF m.h - 1).toNat, by omega⟩
    have hb32 : b < 32 := by omega
    have e : poStep mxP s ⟨6, (m.ph : Int), hh, mk⟩ = (useA s, ⟨6, 2, m.h, lk b⟩, false) := by
      rw [h1, e3 (.inl h1)]
      exact po_link (k := 6) hR ⟨rfl, rfl⟩ hb32 mk m.h hb
    rw [e]
    refine ⟨rfl, rfl, fun _ => ⟨⟨2, m.h, lk b⟩, by show rkQ (s.raw 6) _ < _; by_cases e6 : m.h = s.raw 6 <;> simp [rkQ, h1, e6], ⟨rfl, rfl, fun _ => rfl, fun _ => rfl⟩, ⟨hd, lk, ls, hR.use, hX.popPh (fun m' hm' => by cases hm'; exact ⟨fun _ => ⟨o1, o2, o3⟩, fun _ => ⟨fun _ => by simp only; rw [show (codF m.h - 1).toNat = b by omega], hX.L.lb b hb32⟩, by simp⟩), by omega⟩⟩, fun x => by simp at x⟩
  · have eh := e3 (.inr h2')
    have em := e4 h2'
    have e : poStep mxP s ⟨6, (m.ph : Int), hh, mk⟩ = if hd 6 = m.h then (headS s 6 (trnF m.h m.nx), ⟨6, 3, m.h, m.nx⟩, true) else (useA s, ⟨6, 0, m.h, m.nx⟩, false) := by
      rw [h2', eh, em]
      exact po_swap (k := 6) hR (by omega) _ _
    rw [e]
    by_cases hs : hd 6 = m.h
    · rw [if_pos hs]
      obtain ⟨b, r, hl, hcb2, hb32, hg⟩ := hX.popGo (by omega) hw hm h2' hs.symm
      have ht0 := hX.L.tag
      have hnx := (h2 h2').2
      have et : trnF m.h m.nx = mkF (tagF (hd 6) + 1) m.nx := by
        rw [← hs]
        exact trnF_eq ht0 (by omega) (by omega) (by omega)
      refine ⟨rfl, rfl, fun x => by simp at x, fun _ => .inr ⟨b, hb32, ?_, ⟨upH hd 6 (mkF (tagF (hd 6) + 1) m.nx), lk, r, by rw [et]; exact hR.head (by omega) _, by rw [upH_same]; exact hg, by rw [upH_same, tag_mk (by omega) (by omega)]; omega⟩⟩⟩
      unfold baseF
      rw [if_pos ⟨rfl, by simp only; omega⟩]
      simp only [hcb2]
      rw [unmF_eq (by omega) (by omega), show 8 * ((b : Int) + 1 - 1) = 8 * (b : Int) by omega]
    · rw [if_neg hs]
      exact ⟨rfl, rfl, fun _ => ⟨⟨0, m.h, m.nx⟩, by show rkQ (s.raw 6) _ < _; rw [hr6]; simp [rkQ, h2', Ne.symm hs], ⟨rfl, rfl, fun x => by simp at x, fun x => by simp at x⟩, ⟨hd, lk, ls, hR.use, hX.popPh (fun m' hm' => by cases hm'; exact ⟨fun x => by simp at x, fun x => by simp at x, by simp⟩), by omega⟩⟩, fun x => by simp at x⟩
theorem Mix.begin {k : Nat} {s : Ar} {own : Nat → List Nat} {pu : Nat → Option Pu} {po : Nat → Option Po} {T w : Nat} (h : Mix k s own pu po T) (hw : w < k) {l : List Nat} {b : Nat} (ho : own w = l ++ [b]) (hp : pu w = none) (hb : b < 32) : Mix k s (upO own w l) (upO pu w (some ⟨b, 0, 0⟩)) po T := by
  obtain ⟨hd, lk, ls, hR, hX, htg⟩ := h.ex
  exact ⟨hd, lk, ls, hR, hX.begin hw ho hp hb, htg⟩
theorem Mix.beginPop {k : Nat} {s : Ar} {own : Nat → List Nat} {pu : Nat → Option Pu} {po : Nat → Option Po} {T w : Nat} (h : Mix k s own pu po T) : Mix k s own pu (upO po w (some ⟨0, 0, 0⟩)) T := by
  obtain ⟨hd, lk, ls, hR, hX, htg⟩ := h.ex
  exact ⟨hd, lk, ls, hR, hX.beginPop, htg⟩
theorem Mix.own_lt {k : Nat} {s : Ar} {own : Nat → List Nat} {pu : Nat → Option Pu} {po : Nat → Option Po} {T w : Nat} (h : Mix k s own pu po T) (hk : k ≤ 6) (hw : w < k) : (own w).length ≤ 32 ∧ ∀ b ∈ own w, b < 2 * k := by
  obtain ⟨hd, lk, ls, hR, hX, htg⟩ := h.ex
  have hc : ∀ x, (own w).count x ≤ if x < 2 * k then 1 else 0 := fun x => by
    have h1 := hX.C x
    have h2 : (own w).count x + puC (pu w) x ≤ sumN (fun i => (own i).count x + puC (pu i) x) k := sumN_ge (f := fun i => (own i).count x + puC (pu i) x) hw
    omega
  have hlt : ∀ b ∈ own w, b < 2 * k := fun b hb => by
    have h1 := hc b
    have h2 := List.count_pos_iff.2 hb
    split at h1 <;> omega
  refine ⟨nodup_le 32 _ (List.nodup_iff_count.2 fun x => ?_) fun b hb => by have := hlt b hb; omega, hlt⟩
  have h1 := hc x
  split at h1 <;> omega
def own0 (k : Nat) : Nat → List Nat := fun i => if i < k then [2 * i, 2 * i + 1] else []
theorem sumN_own0 (x : Nat) : ∀ k, sumN (fun i => (own0 k i).count x + puC none x) k = if x < 2 * k then 1 else 0 := by
  have h : ∀ n k, n ≤ k → sumN (fun i => (own0 k i).count x + puC none x) n = if x < 2 * n then 1 else 0 := by
    intro n
    induction n with
    | zero => intro k _; rfl
    | succ n ih =>
      intro k hk
      simp only [sumN]
      rw [ih k (by omega)]
      unfold own0 puC
      rw [if_pos (by omega : n < k)]
      simp only [List.count_cons, List.count_nil, beq_iff_eq]
      repeat' split
      all_goals omega
  exact fun k => h k k (Nat.le_refl _)
theorem Mix.new {k : Nat} : Mix k (A9.new9 81 256 false) (own0 k) (fun _ => none) (fun _ => none) 0 := by
  have hL := Lst.new (K := 16) (M := 32) 81 256 false (by decide) (by decide)
  refine ⟨_, _, _, hL.toRwL, ⟨hL.L 6 (by omega), fun i hi m hm => (by cases hm), fun i hi m hm => (by cases hm), fun x => ?_⟩, by decide⟩
  rw [sumN_own0]
  simp
end Go.Proofs.Ytfljoedjnigfjaa
