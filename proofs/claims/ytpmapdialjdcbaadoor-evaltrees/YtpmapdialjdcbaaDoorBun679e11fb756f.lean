/-
  Helpers: K6KD.
-/
import Derived.Test.YtpmapdialjdcbaaDoorBun62241be7436d
namespace Go.Proofs.YtpmapdialjdcbaaDoor.K6
theorem ok_open {k : Int} (h : okK k = true) : ∃ t : Ky, t.Ok ∧ k = t.key := (of_decide_eq_true h : isK k).open
theorem ok_bd {k : Int} (h : okK k = true) : 1125899906842624 ≤ k ∧ k < 2251799813685248 := by
  obtain ⟨t, ht, rfl⟩ := ok_open h
  exact key_bd ht
theorem ch_yes {k n : Int} (h : okK k = true) (hd : dpN k < 5) (h1 : 1 ≤ n) (h2 : n ≤ 1000) : chO k n = true ∧ chK k n = k + n * wd (dpN k + 1) ∧ 1125899906842624 ≤ k + n * wd (dpN k + 1) ∧ k + n * wd (dpN k + 1) < 2251799813685248 := by
  obtain ⟨t, ht, rfl⟩ := ok_open h
  rw [dp_key ht] at hd ⊢
  obtain ⟨c1, -, c3, -, -⟩ := ch_facts ht hd h1 h2
  have hb := key_bd c1
  rw [← c3]
  exact ⟨by rw [chO_key ht]; exact decide_eq_true ⟨hd, h1, h2⟩, chK_key ht hd h1 h2, hb.1, hb.2⟩
theorem ch_not {k n : Int} (h : okK k = false ∨ dpN k = 5 ∨ n < 1 ∨ 1000 < n) : chO k n = false ∧ chK k n = 0 := by
  have h0 : chO k n = false := by
    rcases h with h | h
    · exact chO_bad h n
    · refine decide_eq_false ?_
      rintro ⟨h1, h2, h3, h4⟩
      rw [dpN, if_pos h1] at h
      omega
  exact ⟨h0, chO_no h0⟩
theorem pa_yes {k : Int} (h : okK k = true) (hd : 0 < dpN k) : paO k = true ∧ paK k = k / wd (dpN k - 1) * wd (dpN k - 1) ∧ paN k = dg k (dpN k) ∧ paK k = k - dg k (dpN k) * wd (dpN k) ∧ 1125899906842624 ≤ paK k ∧ 1 ≤ dg k (dpN k) ∧ dg k (dpN k) ≤ 1000 := by
  obtain ⟨t, ht, rfl⟩ := ok_open h
  rw [dp_key ht] at hd ⊢
  obtain ⟨p1, -, p3, -, p5, p6, p7⟩ := par_facts ht hd
  obtain ⟨q1, q2⟩ := paK_key ht hd
  rw [q1, q2, ← p7]
  exact ⟨by rw [paO_key ht]; exact decide_eq_true hd, (par_up ht hd).symm, rfl, p3, (key_bd p1).1, p5, p6⟩
theorem pa_not {k : Int} (h : dpN k = 0) : paO k = false ∧ paK k = 0 ∧ paN k = 0 := by
  have h0 : paO k = false := by
    refine decide_eq_false ?_
    rintro ⟨h1, h2⟩
    rw [dpN, if_pos h1] at h
    omega
  exact ⟨h0, paO_no h0⟩
theorem dp_bad {k : Int} (h : 0 < dpN k) : okK k = true := by
  cases e : okK k
  · rw [dp_no e] at h; omega
  · rfl
theorem un_yes {a b : Int} (ha : okK a = true) (hb : okK b = true) : unB a b = decide (dpN b < dpN a ∧ a / wd (dpN b) * wd (dpN b) = b) := by
  obtain ⟨t, ht, rfl⟩ := ok_open ha
  obtain ⟨s, hs, rfl⟩ := ok_open hb
  rw [un_key ht hs, dp_key ht, dp_key hs]
  exact decide_eq_decide.2 (und_up ht hs)
theorem ah_yes {a b : Int} (ha : okK a = true) (hb : okK b = true) : ahB a b = (unB a b || (!unB b a && decide (a < b))) := by
  obtain ⟨t, ht, rfl⟩ := ok_open ha
  obtain ⟨s, hs, rfl⟩ := ok_open hb
  rw [un_key ht hs, un_key hs ht, ah_key ht hs]
  rw [show decide (t.rank < s.rank) = decide (und t s ∨ (¬ und s t ∧ t.key < s.key)) from decide_eq_decide.2 (ah_iff ht hs)]
  simp
theorem ah_same (a : Int) : ahB a a = false := by
  refine decide_eq_false ?_
  rintro ⟨-, -, h⟩
  omega
/-- under by parents -/
theorem un_step {a b : Int} (ho : paO a = true) : unB a b = true ↔ (paK a = b ∨ unB (paK a) b = true) := by
  have hp : isK a ∧ 0 < (ofK a).dep := of_decide_eq_true ho
  obtain ⟨t, ht, rfl⟩ := hp.1.open
  rw [of_key ht] at hp
  have hd := hp.2
  obtain ⟨p1, -⟩ := par_facts ht hd
  rw [(paK_key ht hd).1]
  by_cases hb : isK b
  · obtain ⟨s, hs, rfl⟩ := hb.open
    rw [un_key ht hs, un_key p1 hs, decide_eq_true_iff, decide_eq_true_iff, und_step ht hs hd, key_eq p1 hs]
  · have hb2 : okK b = false := decide_eq_false hb
    rw [un_bad2 hb2, un_bad2 hb2]
    refine ⟨fun h => (Bool.false_ne_true h).elim, fun h => ?_⟩
    rcases h with h | h
    · rw [← h] at hb
      exact (hb (isK_key p1)).elim
    · exact (Bool.false_ne_true h).elim
theorem un_top {a b : Int} (ho : paO a = false) : unB a b = false := by
  refine decide_eq_false ?_
  rintro ⟨h1, h2, h3⟩
  obtain ⟨t, ht, rfl⟩ := h1.open
  obtain ⟨s, hs, rfl⟩ := h2.open
  rw [paO_key ht] at ho
  have := of_decide_eq_false ho
  rw [of_key ht, of_key hs] at h3
  exact not_und_root ht (by omega) hs h3
theorem pa_dep {a : Int} (ho : paO a = true) : dpN (paK a) + 1 = dpN a ∧ okK (paK a) = true ∧ okK a = true := by
  have hp : isK a ∧ 0 < (ofK a).dep := of_decide_eq_true ho
  obtain ⟨t, ht, rfl⟩ := hp.1.open
  rw [of_key ht] at hp
  obtain ⟨p1, p2, -⟩ := par_facts ht hp.2
  rw [(paK_key ht hp.2).1, dp_key p1, dp_key ht]
  exact ⟨p2, ok_key p1, ok_key ht⟩
end Go.Proofs.YtpmapdialjdcbaaDoor.K6
