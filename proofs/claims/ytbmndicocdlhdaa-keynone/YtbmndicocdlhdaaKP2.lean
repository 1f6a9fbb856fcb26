/-
  Keys, plainly: what lies under what; the order of tasks is the order of their ends.
-/
import Derived.Test.YtbmndicocdlhdaaKP
namespace Go.Proofs.Ytbmndicocdlhdaa

theorem Ky.Ok.num {t : Ky} (h : t.Ok) : (t.dep = 0 ∧ t.key = 1125899906842624) ∨ (∃ a : Int, t.dep = 1 ∧ t.key = 1125899906842624 + a * 1099511627776 ∧ t.last = a ∧ 1 ≤ a ∧ a ≤ 1000) ∨ (∃ a b : Int, t.dep = 2 ∧ t.key = 1125899906842624 + a * 1099511627776 + b * 1073741824 ∧ t.last = b ∧ 1 ≤ a ∧ a ≤ 1000 ∧ 1 ≤ b ∧ b ≤ 1000) ∨ (∃ a b c : Int, t.dep = 3 ∧ t.key = 1125899906842624 + a * 1099511627776 + b * 1073741824 + c * 1048576 ∧ t.last = c ∧ 1 ≤ a ∧ a ≤ 1000 ∧ 1 ≤ b ∧ b ≤ 1000 ∧ 1 ≤ c ∧ c ≤ 1000) ∨ (∃ a b c d : Int, t.dep = 4 ∧ t.key = 1125899906842624 + a * 1099511627776 + b * 1073741824 + c * 1048576 + d * 1024 ∧ t.last = d ∧ 1 ≤ a ∧ a ≤ 1000 ∧ 1 ≤ b ∧ b ≤ 1000 ∧ 1 ≤ c ∧ c ≤ 1000 ∧ 1 ≤ d ∧ d ≤ 1000) ∨ (∃ a b c d e : Int, t.dep = 5 ∧ t.key = 1125899906842624 + a * 1099511627776 + b * 1073741824 + c * 1048576 + d * 1024 + e ∧ t.last = e ∧ 1 ≤ a ∧ a ≤ 1000 ∧ 1 ≤ b ∧ b ≤ 1000 ∧ 1 ≤ c ∧ c ≤ 1000 ∧ 1 ≤ d ∧ d ≤ 1000 ∧ 1 ≤ e ∧ e ≤ 1000) := by
  rcases h.form with ⟨e, ht⟩ | ⟨e, ht, p1, p2⟩ | ⟨e, ht, p1, p2, p3, p4⟩ | ⟨e, ht, p1, p2, p3, p4, p5, p6⟩ | ⟨e, ht, p1, p2, p3, p4, p5, p6, p7, p8⟩ | ⟨e, p1, p2, p3, p4, p5, p6, p7, p8, p9, p10⟩
  · exact .inl ⟨e, by rw [ht]; rfl⟩
  · refine .inr (.inl ⟨t.a, e, ?_, ?_, p1, p2⟩)
    · conv => lhs; rw [ht]
      simp [Ky.key]
    · simp only [Ky.last, e]; rfl
  · refine .inr (.inr (.inl ⟨t.a, t.b, e, ?_, ?_, p1, p2, p3, p4⟩))
    · conv => lhs; rw [ht]
      simp [Ky.key]
    · simp only [Ky.last, e]; rfl
  · refine .inr (.inr (.inr (.inl ⟨t.a, t.b, t.c, e, ?_, ?_, p1, p2, p3, p4, p5, p6⟩)))
    · conv => lhs; rw [ht]
      simp [Ky.key]
    · simp only [Ky.last, e]; rfl
  · refine .inr (.inr (.inr (.inr (.inl ⟨t.a, t.b, t.c, t.d, e, ?_, ?_, p1, p2, p3, p4, p5, p6, p7, p8⟩))))
    · conv => lhs; rw [ht]
      simp [Ky.key]
    · simp only [Ky.last, e]; rfl
  · refine .inr (.inr (.inr (.inr (.inr (⟨t.a, t.b, t.c, t.d, t.e, e, ?_, ?_, p1, p2, p3, p4, p5, p6, p7, p8, p9, p10⟩)))))
    · rfl
    · simp only [Ky.last, e]; rfl
theorem key_eq {t s : Ky} (h : t.Ok) (k : s.Ok) : t = s ↔ t.key = s.key := ⟨fun e => by rw [e], key_inj h k⟩
set_option maxHeartbeats 4000000 in
theorem und_step {t s : Ky} (h : t.Ok) (k : s.Ok) (hd : 0 < t.dep) : und t s ↔ t.par = s ∨ und t.par s := by
  obtain ⟨p1, -, p3, -, -, -, -⟩ := par_facts h hd
  rw [key_eq p1 k]
  unfold und
  rcases h.num with ⟨Dt, Kt⟩ | ⟨yat, Dt, Kt, Lt, Bt0, Bt1⟩ | ⟨yat, ybt, Dt, Kt, Lt, Bt0, Bt1, Bt2, Bt3⟩ | ⟨yat, ybt, yct, Dt, Kt, Lt, Bt0, Bt1, Bt2, Bt3, Bt4, Bt5⟩ | ⟨yat, ybt, yct, ydt, Dt, Kt, Lt, Bt0, Bt1, Bt2, Bt3, Bt4, Bt5, Bt6, Bt7⟩ | ⟨yat, ybt, yct, ydt, yet, Dt, Kt, Lt, Bt0, Bt1, Bt2, Bt3, Bt4, Bt5, Bt6, Bt7, Bt8, Bt9⟩
  · omega
  all_goals
    rcases k.num with ⟨Ds, Ks⟩ | ⟨yas, Ds, Ks, Ls, Bs0, Bs1⟩ | ⟨yas, ybs, Ds, Ks, Ls, Bs0, Bs1, Bs2, Bs3⟩ | ⟨yas, ybs, ycs, Ds, Ks, Ls, Bs0, Bs1, Bs2, Bs3, Bs4, Bs5⟩ | ⟨yas, ybs, ycs, yds, Ds, Ks, Ls, Bs0, Bs1, Bs2, Bs3, Bs4, Bs5, Bs6, Bs7⟩ | ⟨yas, ybs, ycs, yds, yes, Ds, Ks, Ls, Bs0, Bs1, Bs2, Bs3, Bs4, Bs5, Bs6, Bs7, Bs8, Bs9⟩
    all_goals
      rw [Lt, Dt] at p3
      rw [Ds]
      simp only [wd] at p3 ⊢
      omega
set_option maxHeartbeats 4000000 in
/-- of two keys one lies under the other, or one's last comes ahead of the other's first -/
theorem apart {t s : Ky} (h : t.Ok) (k : s.Ok) : t.key = s.key ∨ (und t s ∧ t.rank < s.rank) ∨ (und s t ∧ s.rank < t.rank) ∨ (t.rank ≤ s.key ∧ t.rank < s.rank) ∨ (s.rank ≤ t.key ∧ s.rank < t.rank) := by
  unfold und Ky.rank
  rcases h.num with ⟨Dt, Kt⟩ | ⟨yat, Dt, Kt, Lt, Bt0, Bt1⟩ | ⟨yat, ybt, Dt, Kt, Lt, Bt0, Bt1, Bt2, Bt3⟩ | ⟨yat, ybt, yct, Dt, Kt, Lt, Bt0, Bt1, Bt2, Bt3, Bt4, Bt5⟩ | ⟨yat, ybt, yct, ydt, Dt, Kt, Lt, Bt0, Bt1, Bt2, Bt3, Bt4, Bt5, Bt6, Bt7⟩ | ⟨yat, ybt, yct, ydt, yet, Dt, Kt, Lt, Bt0, Bt1, Bt2, Bt3, Bt4, Bt5, Bt6, Bt7, Bt8, Bt9⟩
  all_goals
    rcases k.num with ⟨Ds, Ks⟩ | ⟨yas, Ds, Ks, Ls, Bs0, Bs1⟩ | ⟨yas, ybs, Ds, Ks, Ls, Bs0, Bs1, Bs2, Bs3⟩ | ⟨yas, ybs, ycs, Ds, Ks, Ls, Bs0, Bs1, Bs2, Bs3, Bs4, Bs5⟩ | ⟨yas, ybs, ycs, yds, Ds, Ks, Ls, Bs0, Bs1, Bs2, Bs3, Bs4, Bs5, Bs6, Bs7⟩ | ⟨yas, ybs, ycs, yds, yes, Ds, Ks, Ls, Bs0, Bs1, Bs2, Bs3, Bs4, Bs5, Bs6, Bs7, Bs8, Bs9⟩
    all_goals
      rw [Dt, Ds]
      simp only [wd]
      omega
end Go.Proofs.Ytbmndicocdlhdaa
