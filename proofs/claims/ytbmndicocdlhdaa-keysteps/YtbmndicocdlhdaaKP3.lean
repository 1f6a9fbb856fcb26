/-
  Keys, plainly: which task is ahead of which is told by the ends of their intervals.
-/
import Derived.Test.YtbmndicocdlhdaaKP2
namespace Go.Proofs.Ytbmndicocdlhdaa

def ahd (t s : Ky) : Prop := t ≠ s ∧ (und t s ∨ (¬ und s t ∧ t.key < s.key))
theorem wd_pos : ∀ n, 1 ≤ wd n
  | 0 => by decide
  | 1 => by decide
  | 2 => by decide
  | 3 => by decide
  | 4 => by decide
  | _ + 5 => Int.le_refl _
theorem ahd_rank {t s : Ky} (h : t.Ok) (k : s.Ok) : ahd t s ↔ t.rank < s.rank := by
  have ht := wd_pos t.dep
  have hs := wd_pos s.dep
  have ha := apart h k
  unfold ahd
  rw [Ne, key_eq h k]
  unfold und Ky.rank at *
  constructor
  · rintro ⟨h1, h2⟩
    omega
  · intro h1
    by_cases e : t.key = s.key
    · have := key_inj h k e
      subst this
      omega
    · exact ⟨e, by omega⟩
theorem rank_inj {t s : Ky} (h : t.Ok) (k : s.Ok) (e : t.rank = s.rank) : t = s := by
  rw [key_eq h k]
  have := apart h k
  omega
theorem und_rank {t s : Ky} (h : t.Ok) (k : s.Ok) (hu : und t s) : t.rank < s.rank := by
  have hs := wd_pos s.dep
  have ha := apart h k
  have ht := wd_pos t.dep
  unfold und Ky.rank at *
  omega
theorem und_trans {p t s : Ky} (ht : t.Ok) (hs : s.Ok) (h1 : und p t) (h2 : und t s) : und p s := by
  have h3 := und_rank ht hs h2
  unfold und Ky.rank at *
  omega
theorem und_irr (t : Ky) : ¬ und t t := fun h => by unfold und at h; omega
theorem und_asym {t s : Ky} (h : und t s) : ¬ und s t := fun k => by unfold und at h k; omega
theorem und_ch {t : Ky} (h : t.Ok) {n : Int} (hd : t.dep < 5) (h1 : 1 ≤ n) (h2 : n ≤ 1000) : und (t.ch n) t := by
  obtain ⟨c1, c2, -, c4, -⟩ := ch_facts h hd h1 h2
  exact (und_step c1 h (by omega)).2 (.inl c4)
/-- of two forks of one task the first ends ahead of the second's beginning -/
theorem ch_apart {t : Ky} (h : t.Ok) {m n : Int} (hd : t.dep < 5) (h1 : 1 ≤ m) (h2 : m < n) (h3 : n ≤ 1000) : (t.ch m).rank ≤ (t.ch n).key ∧ (t.ch m).rank < (t.ch n).rank ∧ ¬ und (t.ch m) (t.ch n) ∧ ¬ und (t.ch n) (t.ch m) := by
  obtain ⟨-, a2, a3, -, -⟩ := ch_facts h hd h1 (show m ≤ 1000 by omega)
  obtain ⟨-, b2, b3, -, -⟩ := ch_facts h hd (show 1 ≤ n by omega) h3
  have hw := wd_pos (t.dep + 1)
  have hm : (m + 1) * wd (t.dep + 1) ≤ n * wd (t.dep + 1) := Int.mul_le_mul_of_nonneg_right (by omega) (by omega)
  rw [Int.add_mul, Int.one_mul] at hm
  unfold und Ky.rank
  rw [a2, a3, b2, b3]
  omega
/-- what lies under two tasks that are apart is apart as they are -/
theorem apart_under {x y p q : Ky} (hp : p.Ok) (hx : x.Ok) (h : x.rank ≤ y.key) (h1 : p = x ∨ und p x) (h2 : q = y ∨ und q y) : p.rank ≤ q.key ∧ p.rank < q.rank := by
  have a := wd_pos q.dep
  have h3 : p.rank ≤ x.rank := by
    rcases h1 with rfl | h1
    · exact Int.le_refl _
    · exact Int.le_of_lt (und_rank hp hx h1)
  have h4 : y.key ≤ q.key := by
    rcases h2 with rfl | h2
    · exact Int.le_refl _
    · unfold und at h2; omega
  unfold Ky.rank at *
  omega
theorem root_und {t : Ky} (h : t.Ok) (hd : 0 < t.dep) : und t root := by
  have hb := key_bd h
  have hne : t.key ≠ root.key := fun e => by
    have := key_inj h root_ok e
    subst this
    exact absurd hd (by decide)
  unfold und
  rw [dep_root]
  rw [key_root] at *
  simp only [wd]
  omega
end Go.Proofs.Ytbmndicocdlhdaa
