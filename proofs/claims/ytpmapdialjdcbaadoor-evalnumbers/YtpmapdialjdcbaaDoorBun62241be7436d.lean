/-
  Helpers: K6KP, K6KP2, K6KP3, K6KB.
-/
import Derived.WalkKit
namespace Go.Proofs.YtpmapdialjdcbaaDoor.K6
structure Ky where
  a : Int
  b : Int
  c : Int
  d : Int
  e : Int
structure Ky.Ok (t : Ky) : Prop where
  a0 : 0 ≤ t.a
  a1 : t.a ≤ 1000
  b0 : 0 ≤ t.b
  b1 : t.b ≤ 1000
  c0 : 0 ≤ t.c
  c1 : t.c ≤ 1000
  d0 : 0 ≤ t.d
  d1 : t.d ≤ 1000
  e0 : 0 ≤ t.e
  e1 : t.e ≤ 1000
  ab : t.a = 0 → t.b = 0
  bc : t.b = 0 → t.c = 0
  cd : t.c = 0 → t.d = 0
  de : t.d = 0 → t.e = 0
def Ky.key (t : Ky) : Int := 1125899906842624 + t.a * 1099511627776 + t.b * 1073741824 + t.c * 1048576 + t.d * 1024 + t.e
def root : Ky := ⟨0, 0, 0, 0, 0⟩
def Ky.dep (t : Ky) : Nat := if t.a = 0 then 0 else if t.b = 0 then 1 else if t.c = 0 then 2 else if t.d = 0 then 3 else if t.e = 0 then 4 else 5
def wd : Nat → Int
  | 0 => 1125899906842624
  | 1 => 1099511627776
  | 2 => 1073741824
  | 3 => 1048576
  | 4 => 1024
  | _ => 1
/-- the number of the fork at a depth, from 1 on -/
def Ky.dig (t : Ky) : Nat → Int
  | 1 => t.a
  | 2 => t.b
  | 3 => t.c
  | 4 => t.d
  | 5 => t.e
  | _ => 0
def Ky.ch (t : Ky) (n : Int) : Ky := match t.dep with
  | 0 => ⟨n, 0, 0, 0, 0⟩
  | 1 => ⟨t.a, n, 0, 0, 0⟩
  | 2 => ⟨t.a, t.b, n, 0, 0⟩
  | 3 => ⟨t.a, t.b, t.c, n, 0⟩
  | _ => ⟨t.a, t.b, t.c, t.d, n⟩
def Ky.par (t : Ky) : Ky := match t.dep with
  | 0 => t
  | 1 => ⟨0, 0, 0, 0, 0⟩
  | 2 => ⟨t.a, 0, 0, 0, 0⟩
  | 3 => ⟨t.a, t.b, 0, 0, 0⟩
  | 4 => ⟨t.a, t.b, t.c, 0, 0⟩
  | _ => ⟨t.a, t.b, t.c, t.d, 0⟩
def Ky.last (t : Ky) : Int := t.dig t.dep
def und (t s : Ky) : Prop := s.key < t.key ∧ t.key < s.key + wd s.dep
instance (t s : Ky) : Decidable (und t s) := inferInstanceAs (Decidable (_ ∧ _))
/-- where a task stands among the others, each behind its forks -/
def Ky.rank (t : Ky) : Int := t.key + wd t.dep
theorem root_ok : root.Ok := ⟨by decide, by decide, by decide, by decide, by decide, by decide, by decide, by decide, by decide, by decide, fun _ => rfl, fun _ => rfl, fun _ => rfl, fun _ => rfl⟩
theorem dep_root : root.dep = 0 := rfl
theorem key_root : root.key = 1125899906842624 := rfl
theorem dep_le (t : Ky) : t.dep ≤ 5 := by
  unfold Ky.dep
  split
  · omega
  · split
    · omega
    · split
      · omega
      · split
        · omega
        · split <;> omega
/-- a key's six forms -/
theorem Ky.Ok.form {t : Ky} (h : t.Ok) : (t.dep = 0 ∧ t = ⟨0, 0, 0, 0, 0⟩) ∨ (t.dep = 1 ∧ t = ⟨t.a, 0, 0, 0, 0⟩ ∧ 1 ≤ t.a ∧ t.a ≤ 1000) ∨ (t.dep = 2 ∧ t = ⟨t.a, t.b, 0, 0, 0⟩ ∧ 1 ≤ t.a ∧ t.a ≤ 1000 ∧ 1 ≤ t.b ∧ t.b ≤ 1000) ∨ (t.dep = 3 ∧ t = ⟨t.a, t.b, t.c, 0, 0⟩ ∧ 1 ≤ t.a ∧ t.a ≤ 1000 ∧ 1 ≤ t.b ∧ t.b ≤ 1000 ∧ 1 ≤ t.c ∧ t.c ≤ 1000) ∨ (t.dep = 4 ∧ t = ⟨t.a, t.b, t.c, t.d, 0⟩ ∧ 1 ≤ t.a ∧ t.a ≤ 1000 ∧ 1 ≤ t.b ∧ t.b ≤ 1000 ∧ 1 ≤ t.c ∧ t.c ≤ 1000 ∧ 1 ≤ t.d ∧ t.d ≤ 1000) ∨ (t.dep = 5 ∧ 1 ≤ t.a ∧ t.a ≤ 1000 ∧ 1 ≤ t.b ∧ t.b ≤ 1000 ∧ 1 ≤ t.c ∧ t.c ≤ 1000 ∧ 1 ≤ t.d ∧ t.d ≤ 1000 ∧ 1 ≤ t.e ∧ t.e ≤ 1000) := by
  obtain ⟨a, b, c, d, e⟩ := t
  obtain ⟨a0, a1, b0, b1, c0, c1, d0, d1, e0, e1, ab, bc, cd, de⟩ := h
  simp only at a0 a1 b0 b1 c0 c1 d0 d1 e0 e1 ab bc cd de ⊢
  by_cases ha : a = 0
  · have hb := ab ha
    have hc := bc hb
    have hd := cd hc
    have he := de hd
    subst ha; subst hb; subst hc; subst hd; subst he
    exact .inl ⟨rfl, rfl⟩
  · by_cases hb : b = 0
    · have hc := bc hb
      have hd := cd hc
      have he := de hd
      subst hb; subst hc; subst hd; subst he
      exact .inr (.inl ⟨by simp [Ky.dep, ha], rfl, by omega, a1⟩)
    · by_cases hc : c = 0
      · have hd := cd hc
        have he := de hd
        subst hc; subst hd; subst he
        exact .inr (.inr (.inl ⟨by simp [Ky.dep, ha, hb], rfl, by omega, a1, by omega, b1⟩))
      · by_cases hd : d = 0
        · have he := de hd
          subst hd; subst he
          exact .inr (.inr (.inr (.inl ⟨by simp [Ky.dep, ha, hb, hc], rfl, by omega, a1, by omega, b1, by omega, c1⟩)))
        · by_cases he : e = 0
          · subst he
            exact .inr (.inr (.inr (.inr (.inl ⟨by simp [Ky.dep, ha, hb, hc, hd], rfl, by omega, a1, by omega, b1, by omega, c1, by omega, d1⟩))))
          · exact .inr (.inr (.inr (.inr (.inr ⟨by simp [Ky.dep, ha, hb, hc, hd, he], by omega, a1, by omega, b1, by omega, c1, by omega, d1, by omega, e1⟩))))
theorem key_inj {t s : Ky} (h : t.Ok) (k : s.Ok) (e : t.key = s.key) : t = s := by
  obtain ⟨a, b, c, d, x⟩ := t
  obtain ⟨a', b', c', d', x'⟩ := s
  obtain ⟨a0, a1, b0, b1, c0, c1, d0, d1, e0, e1, -, -, -, -⟩ := h
  obtain ⟨a0', a1', b0', b1', c0', c1', d0', d1', e0', e1', -, -, -, -⟩ := k
  simp only [Ky.key] at *
  obtain rfl : a = a' := by omega
  obtain rfl : b = b' := by omega
  obtain rfl : c = c' := by omega
  obtain rfl : d = d' := by omega
  obtain rfl : x = x' := by omega
  rfl
theorem key_bd {t : Ky} (h : t.Ok) : 1125899906842624 ≤ t.key ∧ t.key < 2251799813685248 := by
  obtain ⟨a0, a1, b0, b1, c0, c1, d0, d1, e0, e1, -, -, -, -⟩ := h
  unfold Ky.key
  omega
/-- the digits of a number, by its bits -/
def dg (k : Int) (i : Nat) : Int := k / wd i % 1024
theorem dg_key {t : Ky} (h : t.Ok) : dg t.key 1 = t.a ∧ dg t.key 2 = t.b ∧ dg t.key 3 = t.c ∧ dg t.key 4 = t.d ∧ dg t.key 5 = t.e := by
  obtain ⟨a0, a1, b0, b1, c0, c1, d0, d1, e0, e1, -, -, -, -⟩ := h
  simp only [dg, wd, Ky.key]
  omega
def ofK (k : Int) : Ky := ⟨dg k 1, dg k 2, dg k 3, dg k 4, dg k 5⟩
theorem of_key {t : Ky} (h : t.Ok) : ofK t.key = t := by
  obtain ⟨h1, h2, h3, h4, h5⟩ := dg_key h
  unfold ofK
  rw [h1, h2, h3, h4, h5]
theorem key_of {k : Int} (h1 : 1125899906842624 ≤ k) (h2 : k < 2251799813685248) : (ofK k).key = k := by
  simp only [ofK, Ky.key, dg, wd]
  omega
instance (t : Ky) : Decidable t.Ok := decidable_of_iff (0 ≤ t.a ∧ t.a ≤ 1000 ∧ 0 ≤ t.b ∧ t.b ≤ 1000 ∧ 0 ≤ t.c ∧ t.c ≤ 1000 ∧ 0 ≤ t.d ∧ t.d ≤ 1000 ∧ 0 ≤ t.e ∧ t.e ≤ 1000 ∧ (t.a = 0 → t.b = 0) ∧ (t.b = 0 → t.c = 0) ∧ (t.c = 0 → t.d = 0) ∧ (t.d = 0 → t.e = 0))
  ⟨fun ⟨h1, h2, h3, h4, h5, h6, h7, h8, h9, h10, h11, h12, h13, h14⟩ => ⟨h1, h2, h3, h4, h5, h6, h7, h8, h9, h10, h11, h12, h13, h14⟩, fun ⟨h1, h2, h3, h4, h5, h6, h7, h8, h9, h10, h11, h12, h13, h14⟩ => ⟨h1, h2, h3, h4, h5, h6, h7, h8, h9, h10, h11, h12, h13, h14⟩⟩
/-- whether a number is a key -/
def isK (k : Int) : Prop := 1125899906842624 ≤ k ∧ k < 2251799813685248 ∧ (ofK k).Ok
instance (k : Int) : Decidable (isK k) := inferInstanceAs (Decidable (_ ∧ _))
theorem isK_key {t : Ky} (h : t.Ok) : isK t.key := ⟨(key_bd h).1, (key_bd h).2, by rw [of_key h]; exact h⟩
theorem isK.open {k : Int} (h : isK k) : ∃ t : Ky, t.Ok ∧ k = t.key := ⟨ofK k, h.2.2, (key_of h.1 h.2.1).symm⟩
theorem ch_facts {t : Ky} (h : t.Ok) {n : Int} (hd : t.dep < 5) (h1 : 1 ≤ n) (h2 : n ≤ 1000) : (t.ch n).Ok ∧ (t.ch n).dep = t.dep + 1 ∧ (t.ch n).key = t.key + n * wd (t.dep + 1) ∧ (t.ch n).par = t ∧ (t.ch n).last = n := by
  have hn : n ≠ 0 := by omega
  rcases h.form with ⟨e, ht⟩ | ⟨e, ht, p1, p2⟩ | ⟨e, ht, p1, p2, p3, p4⟩ | ⟨e, ht, p1, p2, p3, p4, p5, p6⟩ | ⟨e, ht, p1, p2, p3, p4, p5, p6, p7, p8⟩ | ⟨e, _⟩
  · have hc : t.ch n = ⟨n, 0, 0, 0, 0⟩ := by simp only [Ky.ch, e]
    have hdp : (⟨n, 0, 0, 0, 0⟩ : Ky).dep = 1 := by simp [Ky.dep, hn]
    rw [hc, e]
    refine ⟨by constructor <;> simp <;> omega, hdp, ?_, ?_, ?_⟩
    · rw [ht]; simp [Ky.key, wd]
    · simp only [Ky.par, hdp]; exact ht.symm
    · simp only [Ky.last, hdp]; rfl
  · have q1 : t.a ≠ 0 := by omega
    have hc : t.ch n = ⟨t.a, n, 0, 0, 0⟩ := by simp only [Ky.ch, e]
    have hdp : (⟨t.a, n, 0, 0, 0⟩ : Ky).dep = 2 := by simp [Ky.dep, hn, q1]
    rw [hc, e]
    refine ⟨by constructor <;> simp <;> omega, hdp, ?_, ?_, ?_⟩
    · conv => rhs; rw [ht]
      simp [Ky.key, wd]
    · simp only [Ky.par, hdp]; exact ht.symm
    · simp only [Ky.last, hdp]; rfl
  · have q1 : t.a ≠ 0 := by omega
    have q2 : t.b ≠ 0 := by omega
    have hc : t.ch n = ⟨t.a, t.b, n, 0, 0⟩ := by simp only [Ky.ch, e]
    have hdp : (⟨t.a, t.b, n, 0, 0⟩ : Ky).dep = 3 := by simp [Ky.dep, hn, q1, q2]
    rw [hc, e]
    refine ⟨by constructor <;> simp <;> omega, hdp, ?_, ?_, ?_⟩
    · conv => rhs; rw [ht]
      simp [Ky.key, wd]
    · simp only [Ky.par, hdp]; exact ht.symm
    · simp only [Ky.last, hdp]; rfl
  · have q1 : t.a ≠ 0 := by omega
    have q2 : t.b ≠ 0 := by omega
    have q3 : t.c ≠ 0 := by omega
    have hc : t.ch n = ⟨t.a, t.b, t.c, n, 0⟩ := by simp only [Ky.ch, e]
    have hdp : (⟨t.a, t.b, t.c, n, 0⟩ : Ky).dep = 4 := by simp [Ky.dep, hn, q1, q2, q3]
    rw [hc, e]
    refine ⟨by constructor <;> simp <;> omega, hdp, ?_, ?_, ?_⟩
    · conv => rhs; rw [ht]
      simp [Ky.key, wd]
    · simp only [Ky.par, hdp]; exact ht.symm
    · simp only [Ky.last, hdp]; rfl
  · have q1 : t.a ≠ 0 := by omega
    have q2 : t.b ≠ 0 := by omega
    have q3 : t.c ≠ 0 := by omega
    have q4 : t.d ≠ 0 := by omega
    have hc : t.ch n = ⟨t.a, t.b, t.c, t.d, n⟩ := by simp only [Ky.ch, e]
    have hdp : (⟨t.a, t.b, t.c, t.d, n⟩ : Ky).dep = 5 := by simp [Ky.dep, hn, q1, q2, q3, q4]
    rw [hc, e]
    refine ⟨by constructor <;> simp <;> omega, hdp, ?_, ?_, ?_⟩
    · conv => rhs; rw [ht]
      simp [Ky.key, wd]
    · simp only [Ky.par, hdp]; exact ht.symm
    · simp only [Ky.last, hdp]; rfl
  · omega
/-- up again -/
theorem par_facts {t : Ky} (h : t.Ok) (hd : 0 < t.dep) : t.par.Ok ∧ t.par.dep + 1 = t.dep ∧ t.par.key = t.key - t.last * wd t.dep ∧ t.par.ch t.last = t ∧ 1 ≤ t.last ∧ t.last ≤ 1000 ∧ t.last = dg t.key t.dep := by
  obtain ⟨g1, g2, g3, g4, g5⟩ := dg_key h
  rcases h.form with ⟨e, ht⟩ | ⟨e, ht, p1, p2⟩ | ⟨e, ht, p1, p2, p3, p4⟩ | ⟨e, ht, p1, p2, p3, p4, p5, p6⟩ | ⟨e, ht, p1, p2, p3, p4, p5, p6, p7, p8⟩ | ⟨e, p1, p2, p3, p4, p5, p6, p7, p8, p9, p10⟩
  · omega
  · have hp : t.par = ⟨0, 0, 0, 0, 0⟩ := by simp only [Ky.par, e]
    have hl : t.last = t.a := by simp only [Ky.last, e]; rfl
    rw [hp, hl, e, g1]
    refine ⟨root_ok, rfl, ?_, ?_, p1, p2, rfl⟩
    · conv => rhs; rw [ht]
      simp [Ky.key, wd]
    · exact ht.symm
  · have q1 : t.a ≠ 0 := by omega
    have hp : t.par = ⟨t.a, 0, 0, 0, 0⟩ := by simp only [Ky.par, e]
    have hl : t.last = t.b := by simp only [Ky.last, e]; rfl
    have hdp : (⟨t.a, 0, 0, 0, 0⟩ : Ky).dep = 1 := by simp [Ky.dep, q1]
    rw [hp, hl, e, g2, hdp]
    refine ⟨by constructor <;> simp <;> omega, rfl, ?_, ?_, p3, p4, rfl⟩
    · conv => rhs; rw [ht]
      simp [Ky.key, wd]
    · simp only [Ky.ch, hdp]; exact ht.symm
  · have q1 : t.a ≠ 0 := by omega
    have q2 : t.b ≠ 0 := by omega
    have hp : t.par = ⟨t.a, t.b, 0, 0, 0⟩ := by simp only [Ky.par, e]
    have hl : t.last = t.c := by simp only [Ky.last, e]; rfl
    have hdp : (⟨t.a, t.b, 0, 0, 0⟩ : Ky).dep = 2 := by simp [Ky.dep, q1, q2]
    rw [hp, hl, e, g3, hdp]
    refine ⟨by constructor <;> simp <;> omega, rfl, ?_, ?_, p5, p6, rfl⟩
    · conv => rhs; rw [ht]
      simp [Ky.key, wd]
    · simp only [Ky.ch, hdp]; exact ht.symm
  · have q1 : t.a ≠ 0 := by omega
    have q2 : t.b ≠ 0 := by omega
    have q3 : t.c ≠ 0 := by omega
    have hp : t.par = ⟨t.a, t.b, t.c, 0, 0⟩ := by simp only [Ky.par, e]
    have hl : t.last = t.d := by simp only [Ky.last, e]; rfl
    have hdp : (⟨t.a, t.b, t.c, 0, 0⟩ : Ky).dep = 3 := by simp [Ky.dep, q1, q2, q3]
    rw [hp, hl, e, g4, hdp]
    refine ⟨by constructor <;> simp <;> omega, rfl, ?_, ?_, p7, p8, rfl⟩
    · conv => rhs; rw [ht]
      simp [Ky.key, wd]
    · simp only [Ky.ch, hdp]; exact ht.symm
  · have q1 : t.a ≠ 0 := by omega
    have q2 : t.b ≠ 0 := by omega
    have q3 : t.c ≠ 0 := by omega
    have q4 : t.d ≠ 0 := by omega
    have hp : t.par = ⟨t.a, t.b, t.c, t.d, 0⟩ := by simp only [Ky.par, e]
    have hl : t.last = t.e := by simp only [Ky.last, e]; rfl
    have hdp : (⟨t.a, t.b, t.c, t.d, 0⟩ : Ky).dep = 4 := by simp [Ky.dep, q1, q2, q3, q4]
    rw [hp, hl, e, g5, hdp]
    refine ⟨by constructor <;> simp <;> omega, rfl, ?_, ?_, p9, p10, rfl⟩
    · simp [Ky.key, wd]
    · simp only [Ky.ch, hdp]
theorem not_und_root {t : Ky} (h : t.Ok) (hd : t.dep = 0) {s : Ky} (k : s.Ok) : ¬ und t s := by
  rcases h.form with ⟨_, ht⟩ | ⟨e, _⟩ | ⟨e, _⟩ | ⟨e, _⟩ | ⟨e, _⟩ | ⟨e, _⟩
  · rintro ⟨h1, -⟩
    rw [ht] at h1
    have := (key_bd k).1
    simp [Ky.key] at h1
    unfold Ky.key at this
    omega
  all_goals omega
end Go.Proofs.YtpmapdialjdcbaaDoor.K6
namespace Go.Proofs.YtpmapdialjdcbaaDoor.K6
theorem Ky.Ok.num {t : Ky} (h : t.Ok) : (t.dep = 0 ∧ t.key = 1125899906842624) ∨ (∃ a : Int, t.dep = 1 ∧ t.key = 1125899906842624 + a * 1099511627776 ∧ t.last = a ∧ 1 ≤ a ∧ a ≤ 1000) ∨ (∃ a b : Int, t.dep = 2 ∧ t.key = 1125899906842624 + a * 1099511627776 + b * 1073741824 ∧ t.last = b ∧ 1 ≤ a ∧ a ≤ 1000 ∧ 1 ≤ b ∧ b ≤ 1000) ∨ (∃ a b c : Int, t.dep = 3 ∧ t.key = 1125899906842624 + a * 1099511627776 + b * 1073741824 + c * 1048576 ∧ t.last = c ∧ 1 ≤ a ∧ a ≤ 1000 ∧ 1 ≤ b ∧ b ≤ 1000 ∧ 1 ≤ c ∧ c ≤ 1000) ∨ (∃ a b c d : Int, t.dep = 4 ∧ t.key = 1125899906842624 + a * 1099511627776 + b * 1073741824 + c * 1048576 + d * 1024 ∧ t.last = d ∧ 1 ≤ a ∧ a ≤ 1000 ∧ 1 ≤ b ∧ b ≤ 1000 ∧ 1 ≤ c ∧ c ≤ 1000 ∧ 1 ≤ d ∧ d ≤ 1000) ∨ (∃ a b c d e : Int, t.dep = 5 ∧ t.key = 1125899906842624 + a * 1099511627776 + b * 1073741824 + c * 1048576 + d * 1024 + e ∧ t.last = e ∧ 1 ≤ a ∧ a ≤ 1000 ∧ 1 ≤ b ∧ b ≤ 1000 ∧ 1 ≤ c ∧ c ≤ 1000 ∧ 1 ≤ d ∧ d ≤ 1000 ∧ 1 ≤ e ∧ e ≤ 1000) := by
  rcases h.form with ⟨e, ht⟩ | ⟨e, ht, p1, p2⟩ | ⟨e, ht, p1, p2, p3, p4⟩ | ⟨e, ht, p1, p2, p3, p4, p5, p6⟩ | ⟨e, ht, p1, p2, p3, p4, p5, p6, p7, p8⟩ | ⟨e, p1, p2, p3, p4, p5, p6, p7, p8, p9, p10⟩
  · exact .inl ⟨e, by rw [ht]; rfl⟩
  · refine .inr (.inl ⟨t.a, e, ?_, ?_, p1, p2⟩)
    · conv => lhs; rw [ht]
      simp [Ky.key]
    · simp only [Ky.last, e]; rfl
  · refine .inr (.inr (.inl ⟨t.a, t.b, e, ?_, ?_, p1, p2, p3, p4⟩))
    · conv => lhs; rw [ht]
      simp [Ky.key]
    · simp only [Ky.last, e]; rfl
  · refine .inr (.inr (.inr (.inl ⟨t.a, t.b, t.c, e, ?_, ?_, p1, p2, p3, p4, p5, p6⟩)))
    · conv => lhs; rw [ht]
      simp [Ky.key]
    · simp only [Ky.last, e]; rfl
  · refine .inr (.inr (.inr (.inr (.inl ⟨t.a, t.b, t.c, t.d, e, ?_, ?_, p1, p2, p3, p4, p5, p6, p7, p8⟩))))
    · conv => lhs; rw [ht]
      simp [Ky.key]
    · simp only [Ky.last, e]; rfl
  · refine .inr (.inr (.inr (.inr (.inr (⟨t.a, t.b, t.c, t.d, t.e, e, ?_, ?_, p1, p2, p3, p4, p5, p6, p7, p8, p9, p10⟩)))))
    · rfl
    · simp only [Ky.last, e]; rfl
theorem key_eq {t s : Ky} (h : t.Ok) (k : s.Ok) : t = s ↔ t.key = s.key := ⟨fun e => by rw [e], key_inj h k⟩
set_option maxHeartbeats 4000000 in
theorem und_step {t s : Ky} (h : t.Ok) (k : s.Ok) (hd : 0 < t.dep) : und t s ↔ t.par = s ∨ und t.par s := by
  obtain ⟨p1, -, p3, -, -, -, -⟩ := par_facts h hd
  rw [key_eq p1 k]
  unfold und
  rcases h.num with ⟨Dt, Kt⟩ | ⟨yat, Dt, Kt, Lt, Bt0, Bt1⟩ | ⟨yat, ybt, Dt, Kt, Lt, Bt0, Bt1, Bt2, Bt3⟩ | ⟨yat, ybt, yct, Dt, Kt, Lt, Bt0, Bt1, Bt2, Bt3, Bt4, Bt5⟩ | ⟨yat, ybt, yct, ydt, Dt, Kt, Lt, Bt0, Bt1, Bt2, Bt3, Bt4, Bt5, Bt6, Bt7⟩ | ⟨yat, ybt, yct, ydt, yet, Dt, Kt, Lt, Bt0, Bt1, Bt2, Bt3, Bt4, Bt5, Bt6, Bt7, Bt8, Bt9⟩
  · omega
  all_goals
    rcases k.num with ⟨Ds, Ks⟩ | ⟨yas, Ds, Ks, Ls, Bs0, Bs1⟩ | ⟨yas, ybs, Ds, Ks, Ls, Bs0, Bs1, Bs2, Bs3⟩ | ⟨yas, ybs, ycs, Ds, Ks, Ls, Bs0, Bs1, Bs2, Bs3, Bs4, Bs5⟩ | ⟨yas, ybs, ycs, yds, Ds, Ks, Ls, Bs0, Bs1, Bs2, Bs3, Bs4, Bs5, Bs6, Bs7⟩ | ⟨yas, ybs, ycs, yds, yes, Ds, Ks, Ls, Bs0, Bs1, Bs2, Bs3, Bs4, Bs5, Bs6, Bs7, Bs8, Bs9⟩
    all_goals
      rw [Lt, Dt] at p3
      rw [Ds]
      simp only [wd] at p3 ⊢
      omega
set_option maxHeartbeats 4000000 in
/-- of two keys one lies under the other, or one's last comes ahead of the other's first -/
theorem apart {t s : Ky} (h : t.Ok) (k : s.Ok) : t.key = s.key ∨ (und t s ∧ t.rank < s.rank) ∨ (und s t ∧ s.rank < t.rank) ∨ (t.rank ≤ s.key ∧ t.rank < s.rank) ∨ (s.rank ≤ t.key ∧ s.rank < t.rank) := by
  unfold und Ky.rank
  rcases h.num with ⟨Dt, Kt⟩ | ⟨yat, Dt, Kt, Lt, Bt0, Bt1⟩ | ⟨yat, ybt, Dt, Kt, Lt, Bt0, Bt1, Bt2, Bt3⟩ | ⟨yat, ybt, yct, Dt, Kt, Lt, Bt0, Bt1, Bt2, Bt3, Bt4, Bt5⟩ | ⟨yat, ybt, yct, ydt, Dt, Kt, Lt, Bt0, Bt1, Bt2, Bt3, Bt4, Bt5, Bt6, Bt7⟩ | ⟨yat, ybt, yct, ydt, yet, Dt, Kt, Lt, Bt0, Bt1, Bt2, Bt3, Bt4, Bt5, Bt6, Bt7, Bt8, Bt9⟩
  all_goals
    rcases k.num with ⟨Ds, Ks⟩ | ⟨yas, Ds, Ks, Ls, Bs0, Bs1⟩ | ⟨yas, ybs, Ds, Ks, Ls, Bs0, Bs1, Bs2, Bs3⟩ | ⟨yas, ybs, ycs, Ds, Ks, Ls, Bs0, Bs1, Bs2, Bs3, Bs4, Bs5⟩ | ⟨yas, ybs, ycs, yds, Ds, Ks, Ls, Bs0, Bs1, Bs2, Bs3, Bs4, Bs5, Bs6, Bs7⟩ | ⟨yas, ybs, ycs, yds, yes, Ds, Ks, Ls, Bs0, Bs1, Bs2, Bs3, Bs4, Bs5, Bs6, Bs7, Bs8, Bs9⟩
    all_goals
      rw [Dt, Ds]
      simp only [wd]
      omega
end Go.Proofs.YtpmapdialjdcbaaDoor.K6
namespace Go.Proofs.YtpmapdialjdcbaaDoor.K6
def ahd (t s : Ky) : Prop := t ≠ s ∧ (und t s ∨ (¬ und s t ∧ t.key < s.key))
theorem wd_pos : ∀ n, 1 ≤ wd n
  | 0 => by decide
  | 1 => by decide
  | 2 => by decide
  | 3 => by decide
  | 4 => by decide
  | _ + 5 => Int.le_refl _
theorem ahd_rank {t s : Ky} (h : t.Ok) (k : s.Ok) : ahd t s ↔ t.rank < s.rank := by
  have ht := wd_pos t.dep
  have hs := wd_pos s.dep
  have ha := apart h k
  unfold ahd
  rw [Ne, key_eq h k]
  unfold und Ky.rank at *
  constructor
  · rintro ⟨h1, h2⟩
    omega
  · intro h1
    by_cases e : t.key = s.key
    · have := key_inj h k e
      subst this
      omega
    · exact ⟨e, by omega⟩
theorem rank_inj {t s : Ky} (h : t.Ok) (k : s.Ok) (e : t.rank = s.rank) : t = s := by
  rw [key_eq h k]
  have := apart h k
  omega
theorem und_rank {t s : Ky} (h : t.Ok) (k : s.Ok) (hu : und t s) : t.rank < s.rank := by
  have hs := wd_pos s.dep
  have ha := apart h k
  have ht := wd_pos t.dep
  unfold und Ky.rank at *
  omega
theorem und_trans {p t s : Ky} (ht : t.Ok) (hs : s.Ok) (h1 : und p t) (h2 : und t s) : und p s := by
  have h3 := und_rank ht hs h2
  unfold und Ky.rank at *
  omega
theorem und_irr (t : Ky) : ¬ und t t := fun h => by unfold und at h; omega
theorem und_asym {t s : Ky} (h : und t s) : ¬ und s t := fun k => by unfold und at h k; omega
theorem und_ch {t : Ky} (h : t.Ok) {n : Int} (hd : t.dep < 5) (h1 : 1 ≤ n) (h2 : n ≤ 1000) : und (t.ch n) t := by
  obtain ⟨c1, c2, -, c4, -⟩ := ch_facts h hd h1 h2
  exact (und_step c1 h (by omega)).2 (.inl c4)
/-- of two forks of one task the first ends ahead of the second's beginning -/
theorem ch_apart {t : Ky} (h : t.Ok) {m n : Int} (hd : t.dep < 5) (h1 : 1 ≤ m) (h2 : m < n) (h3 : n ≤ 1000) : (t.ch m).rank ≤ (t.ch n).key ∧ (t.ch m).rank < (t.ch n).rank ∧ ¬ und (t.ch m) (t.ch n) ∧ ¬ und (t.ch n) (t.ch m) := by
  obtain ⟨-, a2, a3, -, -⟩ := ch_facts h hd h1 (show m ≤ 1000 by omega)
  obtain ⟨-, b2, b3, -, -⟩ := ch_facts h hd (show 1 ≤ n by omega) h3
  have hw := wd_pos (t.dep + 1)
  have hm : (m + 1) * wd (t.dep + 1) ≤ n * wd (t.dep + 1) := Int.mul_le_mul_of_nonneg_right (by omega) (by omega)
  rw [Int.add_mul, Int.one_mul] at hm
  unfold und Ky.rank
  rw [a2, a3, b2, b3]
  omega
/-- what lies under two tasks that are apart is apart as they are -/
theorem apart_under {x y p q : Ky} (hp : p.Ok) (hx : x.Ok) (h : x.rank ≤ y.key) (h1 : p = x ∨ und p x) (h2 : q = y ∨ und q y) : p.rank ≤ q.key ∧ p.rank < q.rank := by
  have a := wd_pos q.dep
  have h3 : p.rank ≤ x.rank := by
    rcases h1 with rfl | h1
    · exact Int.le_refl _
    · exact Int.le_of_lt (und_rank hp hx h1)
  have h4 : y.key ≤ q.key := by
    rcases h2 with rfl | h2
    · exact Int.le_refl _
    · unfold und at h2; omega
  unfold Ky.rank at *
  omega
theorem root_und {t : Ky} (h : t.Ok) (hd : 0 < t.dep) : und t root := by
  have hb := key_bd h
  have hne : t.key ≠ root.key := fun e => by
    have := key_inj h root_ok e
    subst this
    exact absurd hd (by decide)
  unfold und
  rw [dep_root]
  rw [key_root] at *
  simp only [wd]
  omega
end Go.Proofs.YtpmapdialjdcbaaDoor.K6
namespace Go.Proofs.YtpmapdialjdcbaaDoor.K6
theorem dig_bd (k : Int) : ∀ i, 0 ≤ dg k i ∧ dg k i ≤ 1023 := fun i => by unfold dg; omega
theorem dig_sum {k : Int} (h1 : 1125899906842624 ≤ k) (h2 : k < 2251799813685248) : k = 1125899906842624 + dg k 1 * 1099511627776 + dg k 2 * 1073741824 + dg k 3 * 1048576 + dg k 4 * 1024 + dg k 5 := (key_of h1 h2).symm
theorem isK_iff (k : Int) : isK k ↔ 1125899906842624 ≤ k ∧ k < 2251799813685248 ∧ dg k 1 ≤ 1000 ∧ dg k 2 ≤ 1000 ∧ dg k 3 ≤ 1000 ∧ dg k 4 ≤ 1000 ∧ dg k 5 ≤ 1000 ∧ (dg k 1 = 0 → dg k 2 = 0) ∧ (dg k 2 = 0 → dg k 3 = 0) ∧ (dg k 3 = 0 → dg k 4 = 0) ∧ (dg k 4 = 0 → dg k 5 = 0) := by
  constructor
  · rintro ⟨h1, h2, ⟨a0, a1, b0, b1, c0, c1, d0, d1, e0, e1, ab, bc, cd, de⟩⟩
    exact ⟨h1, h2, a1, b1, c1, d1, e1, ab, bc, cd, de⟩
  · rintro ⟨h1, h2, a1, b1, c1, d1, e1, ab, bc, cd, de⟩
    exact ⟨h1, h2, ⟨(dig_bd k 1).1, a1, (dig_bd k 2).1, b1, (dig_bd k 3).1, c1, (dig_bd k 4).1, d1, (dig_bd k 5).1, e1, ab, bc, cd, de⟩⟩
/-- the first i digits are numbers of forks -/
def DgOk (k : Int) (i : Nat) : Prop := ∀ j, 1 ≤ j → j ≤ i → 1 ≤ dg k j ∧ dg k j ≤ 1000
theorem DgOk.zero (k : Int) : DgOk k 0 := fun j h1 h2 => by omega
theorem DgOk.next {k : Int} {i : Nat} (h : DgOk k i) (h1 : 1 ≤ dg k (i + 1)) (h2 : dg k (i + 1) ≤ 1000) : DgOk k (i + 1) := fun j j1 j2 => by
  by_cases e : j = i + 1
  · subst e; exact ⟨h1, h2⟩
  · exact h j j1 (by omega)
theorem dep_of {a b c d e : Int} {i : Nat} (hi : i ≤ 5) (h1 : 1 ≤ i → a ≠ 0) (h2 : 2 ≤ i → b ≠ 0) (h3 : 3 ≤ i → c ≠ 0) (h4 : 4 ≤ i → d ≠ 0) (h5 : 5 ≤ i → e ≠ 0) (g1 : i = 0 → a = 0) (g2 : i = 1 → b = 0) (g3 : i = 2 → c = 0) (g4 : i = 3 → d = 0) (g5 : i = 4 → e = 0) : (⟨a, b, c, d, e⟩ : Ky).dep = i := by
  match i, hi with
  | 0, _ => simp [Ky.dep, g1]
  | 1, _ => simp [Ky.dep, h1, g2]
  | 2, _ => simp [Ky.dep, h1, h2, g3]
  | 3, _ => simp [Ky.dep, h1, h2, h3, g4]
  | 4, _ => simp [Ky.dep, h1, h2, h3, h4, g5]
  | 5, _ => simp [Ky.dep, h1, h2, h3, h4, h5]
set_option maxHeartbeats 1000000 in
theorem mes_key {k : Int} {i : Nat} (hi : i ≤ 5) (h1 : 1125899906842624 ≤ k) (h2 : k < 2251799813685248) (hd : DgOk k i) (he : i = 5 ∨ dg k (i + 1) = 0) : (isK k ↔ k / wd i * wd i = k) ∧ (isK k → (ofK k).dep = i) := by
  have hs := dig_sum h1 h2
  have q1 := dig_bd k 1
  have q2 := dig_bd k 2
  have q3 := dig_bd k 3
  have q4 := dig_bd k 4
  have q5 := dig_bd k 5
  have g1 := hd 1
  have g2 := hd 2
  have g3 := hd 3
  have g4 := hd 4
  have g5 := hd 5
  clear hd
  have f1 : i = 0 → dg k 1 = 0 := fun e => by subst e; simpa using he
  have f2 : i = 1 → dg k 2 = 0 := fun e => by subst e; simpa using he
  have f3 : i = 2 → dg k 3 = 0 := fun e => by subst e; simpa using he
  have f4 : i = 3 → dg k 4 = 0 := fun e => by subst e; simpa using he
  have f5 : i = 4 → dg k 5 = 0 := fun e => by subst e; simpa using he
  rw [isK_iff]
  refine ⟨⟨?_, fun h => ?_⟩, fun _ => dep_of hi (by omega) (by omega) (by omega) (by omega) (by omega) f1 f2 f3 f4 f5⟩
  · rintro ⟨-, -, -, -, -, -, -, u1, u2, u3, u4⟩
    match i, hi with
    | 0, _ => simp only [wd]; omega
    | 1, _ => simp only [wd]; omega
    | 2, _ => simp only [wd]; omega
    | 3, _ => simp only [wd]; omega
    | 4, _ => simp only [wd]; omega
    | 5, _ => simp only [wd]; omega
  · refine ⟨h1, h2, ?_⟩
    match i, hi with
    | 0, _ => simp only [wd] at h; omega
    | 1, _ => simp only [wd] at h; omega
    | 2, _ => simp only [wd] at h; omega
    | 3, _ => simp only [wd] at h; omega
    | 4, _ => simp only [wd] at h; omega
    | 5, _ => simp only [wd] at h; omega
theorem big_no {k : Int} {i : Nat} (h0 : 1 ≤ i) (hi : i ≤ 5) (h : 1000 < dg k i) : ¬ isK k := by
  rw [isK_iff]
  match i, h0, hi with
  | 1, _, _ => omega
  | 2, _, _ => omega
  | 3, _, _ => omega
  | 4, _, _ => omega
  | 5, _, _ => omega
theorem gap_no {k : Int} {i : Nat} (h0 : 1 ≤ i) (hi : i < 5) (h : dg k i = 0) (h2 : 0 < dg k (i + 1)) : ¬ isK k := by
  rw [isK_iff]
  match i, h0, hi with
  | 1, _, _ => simp only [Nat.reduceAdd] at h2; omega
  | 2, _, _ => simp only [Nat.reduceAdd] at h2; omega
  | 3, _, _ => simp only [Nat.reduceAdd] at h2; omega
  | 4, _, _ => simp only [Nat.reduceAdd] at h2; omega
/-- what the document's own Check has seen behind i digits -/
structure PreK (k : Int) (i : Nat) : Prop where
  few : ∀ j, 1 ≤ j → j ≤ i → dg k j ≤ 1000
  gap : ∀ j, 1 ≤ j → j < i → dg k j = 0 → dg k (j + 1) = 0
def enB (k : Int) (i : Nat) : Bool := decide (1 ≤ i ∧ dg k i = 0)
theorem PreK.zero (k : Int) : PreK k 0 := ⟨fun j h1 h2 => by omega, fun j h1 h2 => by omega⟩
theorem PreK.next {k : Int} {i : Nat} (h : PreK k i) (h1 : dg k (i + 1) ≤ 1000) (h2 : 0 < dg k (i + 1) → enB k i = false) : PreK k (i + 1) ∧ enB k (i + 1) = (enB k i || decide (dg k (i + 1) = 0)) := by
  have hb := (dig_bd k (i + 1)).1
  have hz : 1 ≤ i → dg k i = 0 → dg k (i + 1) = 0 := fun a b => by
    refine Classical.byContradiction fun hn => ?_
    have := h2 (by omega)
    simp [enB, a, b] at this
  refine ⟨⟨fun j j1 j2 => ?_, fun j j1 j2 j3 => ?_⟩, ?_⟩
  · by_cases e : j = i + 1
    · subst e; exact h1
    · exact h.few j j1 (by omega)
  · by_cases e : j = i
    · subst e; exact hz j1 j3
    · exact h.gap j j1 (by omega) j3
  · by_cases e : dg k (i + 1) = 0
    · simp [enB, e]
    · have : ¬ (1 ≤ i ∧ dg k i = 0) := fun hh => e (hz hh.1 hh.2)
      simp [enB, e, this]
theorem PreK.done {k : Int} (h : PreK k 5) (h1 : 1125899906842624 ≤ k) (h2 : k < 2251799813685248) : isK k := by
  rw [isK_iff]
  exact ⟨h1, h2, h.few 1 (by omega) (by omega), h.few 2 (by omega) (by omega), h.few 3 (by omega) (by omega), h.few 4 (by omega) (by omega), h.few 5 (by omega) (by omega), h.gap 1 (by omega) (by omega), h.gap 2 (by omega) (by omega), h.gap 3 (by omega) (by omega), h.gap 4 (by omega) (by omega)⟩
/-- a key's depth by its digits -/
theorem dep_at {k : Int} (hk : isK k) {i : Nat} (hi : i ≤ 5) (hd : ∀ j, 1 ≤ j → j ≤ i → 0 < dg k j) (he : i = 5 ∨ dg k (i + 1) = 0) : (ofK k).dep = i := by
  have h := hk
  rw [isK_iff] at h
  obtain ⟨h1, h2, a1, b1, c1, d1, e1, -⟩ := h
  refine (mes_key hi h1 h2 (fun j j1 j2 => ⟨hd j j1 j2, ?_⟩) he).2 hk
  have hj : j ≤ 5 := by omega
  match j, j1, hj with
  | 1, _, _ => exact a1
  | 2, _, _ => exact b1
  | 3, _, _ => exact c1
  | 4, _, _ => exact d1
  | 5, _, _ => exact e1
/-! ### the answers -/
def okK (k : Int) : Bool := decide (isK k)
def dpN (k : Int) : Nat := if isK k then (ofK k).dep else 0
def chO (k n : Int) : Bool := decide (isK k ∧ (ofK k).dep < 5 ∧ 1 ≤ n ∧ n ≤ 1000)
def chK (k n : Int) : Int := if isK k ∧ (ofK k).dep < 5 ∧ 1 ≤ n ∧ n ≤ 1000 then ((ofK k).ch n).key else 0
def paO (k : Int) : Bool := decide (isK k ∧ 0 < (ofK k).dep)
def paK (k : Int) : Int := if isK k ∧ 0 < (ofK k).dep then (ofK k).par.key else 0
def paN (k : Int) : Int := if isK k ∧ 0 < (ofK k).dep then (ofK k).last else 0
def unB (a b : Int) : Bool := decide (isK a ∧ isK b ∧ und (ofK a) (ofK b))
def ahB (a b : Int) : Bool := decide (isK a ∧ isK b ∧ (ofK a).rank < (ofK b).rank)
theorem dpN_le (k : Int) : dpN k ≤ 5 := by
  unfold dpN
  split
  · exact dep_le _
  · omega
theorem ok_key {t : Ky} (h : t.Ok) : okK t.key = true := decide_eq_true (isK_key h)
theorem dp_key {t : Ky} (h : t.Ok) : dpN t.key = t.dep := by rw [dpN, if_pos (isK_key h), of_key h]
theorem chO_key {t : Ky} (h : t.Ok) (n : Int) : chO t.key n = decide (t.dep < 5 ∧ 1 ≤ n ∧ n ≤ 1000) := by
  simp only [chO, isK_key h, of_key h, true_and]
theorem chK_key {t : Ky} (h : t.Ok) {n : Int} (hd : t.dep < 5) (h1 : 1 ≤ n) (h2 : n ≤ 1000) : chK t.key n = (t.ch n).key := by
  simp only [chK, isK_key h, of_key h, true_and]
  exact if_pos ⟨hd, h1, h2⟩
theorem chO_no {k n : Int} (h : chO k n = false) : chK k n = 0 := if_neg (of_decide_eq_false h)
theorem paO_key {t : Ky} (h : t.Ok) : paO t.key = decide (0 < t.dep) := by simp only [paO, isK_key h, of_key h, true_and]
theorem paK_key {t : Ky} (h : t.Ok) (hd : 0 < t.dep) : paK t.key = t.par.key ∧ paN t.key = t.last := by
  simp only [paK, paN, isK_key h, of_key h, true_and, if_pos hd, and_self]
theorem paO_no {k : Int} (h : paO k = false) : paK k = 0 ∧ paN k = 0 := ⟨if_neg (of_decide_eq_false h), if_neg (of_decide_eq_false h)⟩
theorem un_key {t s : Ky} (h : t.Ok) (k : s.Ok) : unB t.key s.key = decide (und t s) := by simp only [unB, isK_key h, isK_key k, of_key h, of_key k, true_and]
theorem ah_key {t s : Ky} (h : t.Ok) (k : s.Ok) : ahB t.key s.key = decide (t.rank < s.rank) := by simp only [ahB, isK_key h, isK_key k, of_key h, of_key k, true_and]
theorem ok_cases (k : Int) : (∃ t : Ky, t.Ok ∧ k = t.key) ∨ okK k = false := by
  by_cases h : isK k
  · exact .inl h.open
  · exact .inr (decide_eq_false h)
theorem not_ok {k : Int} (h : okK k = false) : ¬ isK k := of_decide_eq_false h
theorem dp_no {k : Int} (h : okK k = false) : dpN k = 0 := if_neg (not_ok h)
theorem chO_bad {k : Int} (h : okK k = false) (n : Int) : chO k n = false := decide_eq_false fun x => not_ok h x.1
theorem paO_bad {k : Int} (h : okK k = false) : paO k = false := decide_eq_false fun x => not_ok h x.1
theorem un_bad1 {k : Int} (h : okK k = false) (s : Int) : unB k s = false := decide_eq_false fun x => not_ok h x.1
theorem un_bad2 {k : Int} (h : okK k = false) (s : Int) : unB s k = false := decide_eq_false fun x => not_ok h x.2.1
theorem ah_bad1 {k : Int} (h : okK k = false) (s : Int) : ahB k s = false := decide_eq_false fun x => not_ok h x.1
theorem ah_bad2 {k : Int} (h : okK k = false) (s : Int) : ahB s k = false := decide_eq_false fun x => not_ok h x.2.1
/-- by their intervals: what upTo tells -/
theorem und_up {t s : Ky} (h : t.Ok) (k : s.Ok) : und t s ↔ s.dep < t.dep ∧ t.key / wd s.dep * wd s.dep = s.key := by
  unfold und
  rcases k.num with ⟨Ds, Ks⟩ | ⟨yas, Ds, Ks, Ls, Bs0, Bs1⟩ | ⟨yas, ybs, Ds, Ks, Ls, Bs0, Bs1, Bs2, Bs3⟩ | ⟨yas, ybs, ycs, Ds, Ks, Ls, Bs0, Bs1, Bs2, Bs3, Bs4, Bs5⟩ | ⟨yas, ybs, ycs, yds, Ds, Ks, Ls, Bs0, Bs1, Bs2, Bs3, Bs4, Bs5, Bs6, Bs7⟩ | ⟨yas, ybs, ycs, yds, yes, Ds, Ks, Ls, Bs0, Bs1, Bs2, Bs3, Bs4, Bs5, Bs6, Bs7, Bs8, Bs9⟩
  all_goals
    rcases h.num with ⟨Dt, Kt⟩ | ⟨yat, Dt, Kt, Lt, Bt0, Bt1⟩ | ⟨yat, ybt, Dt, Kt, Lt, Bt0, Bt1, Bt2, Bt3⟩ | ⟨yat, ybt, yct, Dt, Kt, Lt, Bt0, Bt1, Bt2, Bt3, Bt4, Bt5⟩ | ⟨yat, ybt, yct, ydt, Dt, Kt, Lt, Bt0, Bt1, Bt2, Bt3, Bt4, Bt5, Bt6, Bt7⟩ | ⟨yat, ybt, yct, ydt, yet, Dt, Kt, Lt, Bt0, Bt1, Bt2, Bt3, Bt4, Bt5, Bt6, Bt7, Bt8, Bt9⟩
    all_goals
      rw [Dt, Ds]
      simp only [wd]
      omega
/-- a parent's key by upTo -/
theorem par_up {t : Ky} (h : t.Ok) (hd : 0 < t.dep) : t.key / wd (t.dep - 1) * wd (t.dep - 1) = t.par.key := by
  obtain ⟨p1, p2, p3, -, p5, p6, -⟩ := par_facts h hd
  rcases h.num with ⟨Dt, Kt⟩ | ⟨yat, Dt, Kt, Lt, Bt0, Bt1⟩ | ⟨yat, ybt, Dt, Kt, Lt, Bt0, Bt1, Bt2, Bt3⟩ | ⟨yat, ybt, yct, Dt, Kt, Lt, Bt0, Bt1, Bt2, Bt3, Bt4, Bt5⟩ | ⟨yat, ybt, yct, ydt, Dt, Kt, Lt, Bt0, Bt1, Bt2, Bt3, Bt4, Bt5, Bt6, Bt7⟩ | ⟨yat, ybt, yct, ydt, yet, Dt, Kt, Lt, Bt0, Bt1, Bt2, Bt3, Bt4, Bt5, Bt6, Bt7, Bt8, Bt9⟩
  all_goals
    rw [Dt] at p3 hd ⊢
    simp only [wd] at p3 ⊢
    omega
theorem ah_iff {t s : Ky} (h : t.Ok) (k : s.Ok) : t.rank < s.rank ↔ und t s ∨ (¬ und s t ∧ t.key < s.key) := by
  rw [← ahd_rank h k, ahd]
  constructor
  · exact fun x => x.2
  · intro x
    refine ⟨fun e => ?_, x⟩
    subst e
    rcases x with x | ⟨-, x⟩
    · exact und_irr _ x
    · omega
end Go.Proofs.YtpmapdialjdcbaaDoor.K6
