/-
  Keys, plainly: five numbers of forks, without gaps; children, parents, what lies under what, which comes first.
-/
import Derived.WalkKit
namespace Go.Proofs.Ytbmndicocdlhdaa

structure Ky where
  a : Int
  b : Int
  c : Int
  d : Int
  e : Int
structure Ky.Ok (t : Ky) : Prop where
  a0 : 0 ≤ t.a
  a1 : t.a ≤ 1000
  b0 : 0 ≤ t.b
  b1 : t.b ≤ 1000
  c0 : 0 ≤ t.c
  c1 : t.c ≤ 1000
  d0 : 0 ≤ t.d
  d1 : t.d ≤ 1000
  e0 : 0 ≤ t.e
  e1 : t.e ≤ 1000
  ab : t.a = 0 → t.b = 0
  bc : t.b = 0 → t.c = 0
  cd : t.c = 0 → t.d = 0
  de : t.d = 0 → t.e = 0
def Ky.key (t : Ky) : Int := 1125899906842624 + t.a * 1099511627776 + t.b * 1073741824 + t.c * 1048576 + t.d * 1024 + t.e
def root : Ky := ⟨0, 0, 0, 0, 0⟩
def Ky.dep (t : Ky) : Nat := if t.a = 0 then 0 else if t.b = 0 then 1 else if t.c = 0 then 2 else if t.d = 0 then 3 else if t.e = 0 then 4 else 5
def wd : Nat → Int
  | 0 => 1125899906842624
  | 1 => 1099511627776
  | 2 => 1073741824
  | 3 => 1048576
  | 4 => 1024
  | _ => 1
/-- the number of the fork at a depth, from 1 on -/
def Ky.dig (t : Ky) : Nat → Int
  | 1 => t.a
  | 2 => t.b
  | 3 => t.c
  | 4 => t.d
  | 5 => t.e
  | _ => 0
def Ky.ch (t : Ky) (n : Int) : Ky := match t.dep with
  | 0 => ⟨n, 0, 0, 0, 0⟩
  | 1 => ⟨t.a, n, 0, 0, 0⟩
  | 2 => ⟨t.a, t.b, n, 0, 0⟩
  | 3 => ⟨t.a, t.b, t.c, n, 0⟩
  | _ => ⟨t.a, t.b, t.c, t.d, n⟩
def Ky.par (t : Ky) : Ky := match t.dep with
  | 0 => t
  | 1 => ⟨0, 0, 0, 0, 0⟩
  | 2 => ⟨t.a, 0, 0, 0, 0⟩
  | 3 => ⟨t.a, t.b, 0, 0, 0⟩
  | 4 => ⟨t.a, t.b, t.c, 0, 0⟩
  | _ => ⟨t.a, t.b, t.c, t.d, 0⟩
def Ky.last (t : Ky) : Int := t.dig t.dep
def und (t s : Ky) : Prop := s.key < t.key ∧ t.key < s.key + wd s.dep
instance (t s : Ky) : Decidable (und t s) := inferInstanceAs (Decidable (_ ∧ _))
/-- where a task stands among the others, each behind its forks -/
def Ky.rank (t : Ky) : Int := t.key + wd t.dep
theorem root_ok : root.Ok := ⟨by decide, by decide, by decide, by decide, by decide, by decide, by decide, by decide, by decide, by decide, fun _ => rfl, fun _ => rfl, fun _ => rfl, fun _ => rfl⟩
theorem dep_root : root.dep = 0 := rfl
theorem key_root : root.key = 1125899906842624 := rfl
theorem dep_le (t : Ky) : t.dep ≤ 5 := by
  unfold Ky.dep
  split
  · omega
  · split
    · omega
    · split
      · omega
      · split
        · omega
        · split <;> omega
/-- a key's six forms -/
theorem Ky.Ok.form {t : Ky} (h : t.Ok) : (t.dep = 0 ∧ t = ⟨0, 0, 0, 0, 0⟩) ∨ (t.dep = 1 ∧ t = ⟨t.a, 0, 0, 0, 0⟩ ∧ 1 ≤ t.a ∧ t.a ≤ 1000) ∨ (t.dep = 2 ∧ t = ⟨t.a, t.b, 0, 0, 0⟩ ∧ 1 ≤ t.a ∧ t.a ≤ 1000 ∧ 1 ≤ t.b ∧ t.b ≤ 1000) ∨ (t.dep = 3 ∧ t = ⟨t.a, t.b, t.c, 0, 0⟩ ∧ 1 ≤ t.a ∧ t.a ≤ 1000 ∧ 1 ≤ t.b ∧ t.b ≤ 1000 ∧ 1 ≤ t.c ∧ t.c ≤ 1000) ∨ (t.dep = 4 ∧ t = ⟨t.a, t.b, t.c, t.d, 0⟩ ∧ 1 ≤ t.a ∧ t.a ≤ 1000 ∧ 1 ≤ t.b ∧ t.b ≤ 1000 ∧ 1 ≤ t.c ∧ t.c ≤ 1000 ∧ 1 ≤ t.d ∧ t.d ≤ 1000) ∨ (t.dep = 5 ∧ 1 ≤ t.a ∧ t.a ≤ 1000 ∧ 1 ≤ t.b ∧ t.b ≤ 1000 ∧ 1 ≤ t.c ∧ t.c ≤ 1000 ∧ 1 ≤ t.d ∧ t.d ≤ 1000 ∧ 1 ≤ t.e ∧ t.e ≤ 1000) := by
  obtain ⟨a, b, c, d, e⟩ := t
  obtain ⟨a0, a1, b0, b1, c0, c1, d0, d1, e0, e1, ab, bc, cd, de⟩ := h
  simp only at a0 a1 b0 b1 c0 c1 d0 d1 e0 e1 ab bc cd de ⊢
  by_cases ha : a = 0
  · have hb := ab ha
    have hc := bc hb
    have hd := cd hc
    have he := de hd
    subst ha; subst hb; subst hc; subst hd; subst he
    exact .inl ⟨rfl, rfl⟩
  · by_cases hb : b = 0
    · have hc := bc hb
      have hd := cd hc
      have he := de hd
      subst hb; subst hc; subst hd; subst he
      exact .inr (.inl ⟨by simp [Ky.dep, ha], rfl, by omega, a1⟩)
    · by_cases hc : c = 0
      · have hd := cd hc
        have he := de hd
        subst hc; subst hd; subst he
        exact .inr (.inr (.inl ⟨by simp [Ky.dep, ha, hb], rfl, by omega, a1, by omega, b1⟩))
      · by_cases hd : d = 0
        · have he := de hd
          subst hd; subst he
          exact .inr (.inr (.inr (.inl ⟨by simp [Ky.dep, ha, hb, hc], rfl, by omega, a1, by omega, b1, by omega, c1⟩)))
        · by_cases he : e = 0
          · subst he
            exact .inr (.inr (.inr (.inr (.inl ⟨by simp [Ky.dep, ha, hb, hc, hd], rfl, by omega, a1, by omega, b1, by omega, c1, by omega, d1⟩))))
          · exact .inr (.inr (.inr (.inr (.inr ⟨by simp [Ky.dep, ha, hb, hc, hd, he], by omega, a1, by omega, b1, by omega, c1, by omega, d1, by omega, e1⟩))))
theorem key_inj {t s : Ky} (h : t.Ok) (k : s.Ok) (e : t.key = s.key) : t = s := by
  obtain ⟨a, b, c, d, x⟩ := t
  obtain ⟨a', b', c', d', x'⟩ := s
  obtain ⟨a0, a1, b0, b1, c0, c1, d0, d1, e0, e1, -, -, -, -⟩ := h
  obtain ⟨a0', a1', b0', b1', c0', c1', d0', d1', e0', e1', -, -, -, -⟩ := k
  simp only [Ky.key] at *
  obtain rfl : a = a' := by omega
  obtain rfl : b = b' := by omega
  obtain rfl : c = c' := by omega
  obtain rfl : d = d' := by omega
  obtain rfl : x = x' := by omega
  rfl
theorem key_bd {t : Ky} (h : t.Ok) : 1125899906842624 ≤ t.key ∧ t.key < 2251799813685248 := by
  obtain ⟨a0, a1, b0, b1, c0, c1, d0, d1, e0, e1, -, -, -, -⟩ := h
  unfold Ky.key
  omega
/-- the digits of a number, by its bits -/
def dg (k : Int) (i : Nat) : Int := k / wd i % 1024
theorem dg_key {t : Ky} (h : t.Ok) : dg t.key 1 = t.a ∧ dg t.key 2 = t.b ∧ dg t.key 3 = t.c ∧ dg t.key 4 = t.d ∧ dg t.key 5 = t.e := by
  obtain ⟨a0, a1, b0, b1, c0, c1, d0, d1, e0, e1, -, -, -, -⟩ := h
  simp only [dg, wd, Ky.key]
  omega
def ofK (k : Int) : Ky := ⟨dg k 1, dg k 2, dg k 3, dg k 4, dg k 5⟩
theorem of_key {t : Ky} (h : t.Ok) : ofK t.key = t := by
  obtain ⟨h1, h2, h3, h4, h5⟩ := dg_key h
  unfold ofK
  rw [h1, h2, h3, h4, h5]
theorem key_of {k : Int} (h1 : 1125899906842624 ≤ k) (h2 : k < 2251799813685248) : (ofK k).key = k := by
  simp only [ofK, Ky.key, dg, wd]
  omega
instance (t : Ky) : Decidable t.Ok := decidable_of_iff (0 ≤ t.a ∧ t.a ≤ 1000 ∧ 0 ≤ t.b ∧ t.b ≤ 1000 ∧ 0 ≤ t.c ∧ t.c ≤ 1000 ∧ 0 ≤ t.d ∧ t.d ≤ 1000 ∧ 0 ≤ t.e ∧ t.e ≤ 1000 ∧ (t.a = 0 → t.b = 0) ∧ (t.b = 0 → t.c = 0) ∧ (t.c = 0 → t.d = 0) ∧ (t.d = 0 → t.e = 0))
  ⟨fun ⟨h1, h2, h3, h4, h5, h6, h7, h8, h9, h10, h11, h12, h13, h14⟩ => ⟨h1, h2, h3, h4, h5, h6, h7, h8, h9, h10, h11, h12, h13, h14⟩, fun ⟨h1, h2, h3, h4, h5, h6, h7, h8, h9, h10, h11, h12, h13, h14⟩ => ⟨h1, h2, h3, h4, h5, h6, h7, h8, h9, h10, h11, h12, h13, h14⟩⟩
/-- whether a number is a key -/
def isK (k : Int) : Prop := 1125899906842624 ≤ k ∧ k < 2251799813685248 ∧ (ofK k).Ok
instance (k : Int) : Decidable (isK k) := inferInstanceAs (Decidable (_ ∧ _))
theorem isK_key {t : Ky} (h : t.Ok) : isK t.key := ⟨(key_bd h).1, (key_bd h).2, by rw [of_key h]; exact h⟩
theorem isK.open {k : Int} (h : isK k) : ∃ t : Ky, t.Ok ∧ k = t.key := ⟨ofK k, h.2.2, (key_of h.1 h.2.1).symm⟩
theorem ch_facts {t : Ky} (h : t.Ok) {n : Int} (hd : t.dep < 5) (h1 : 1 ≤ n) (h2 : n ≤ 1000) : (t.ch n).Ok ∧ (t.ch n).dep = t.dep + 1 ∧ (t.ch n).key = t.key + n * wd (t.dep + 1) ∧ (t.ch n).par = t ∧ (t.ch n).last = n := by
  have hn : n ≠ 0 := by omega
  rcases h.form with ⟨e, ht⟩ | ⟨e, ht, p1, p2⟩ | ⟨e, ht, p1, p2, p3, p4⟩ | ⟨e, ht, p1, p2, p3, p4, p5, p6⟩ | ⟨e, ht, p1, p2, p3, p4, p5, p6, p7, p8⟩ | ⟨e, _⟩
  · have hc : t.ch n = ⟨n, 0, 0, 0, 0⟩ := by simp only [Ky.ch, e]
    have hdp : (⟨n, 0, 0, 0, 0⟩ : Ky).dep = 1 := by simp [Ky.dep, hn]
    rw [hc, e]
    refine ⟨by constructor <;> simp <;> omega, hdp, ?_, ?_, ?_⟩
    · rw [ht]; simp [Ky.key, wd]
    · simp only [Ky.par, hdp]; exact ht.symm
    · simp only [Ky.last, hdp]; rfl
  · have q1 : t.a ≠ 0 := by omega
    have hc : t.ch n = ⟨t.a, n, 0, 0, 0⟩ := by simp only [Ky.ch, e]
    have hdp : (⟨t.a, n, 0, 0, 0⟩ : Ky).dep = 2 := by simp [Ky.dep, hn, q1]
    rw [hc, e]
    refine ⟨by constructor <;> simp <;> omega, hdp, ?_, ?_, ?_⟩
    · conv => rhs; rw [ht]
      simp [Ky.key, wd]
    · simp only [Ky.par, hdp]; exact ht.symm
    · simp only [Ky.last, hdp]; rfl
  · have q1 : t.a ≠ 0 := by omega
    have q2 : t.b ≠ 0 := by omega
    have hc : t.ch n = ⟨t.a, t.b, n, 0, 0⟩ := by simp only [Ky.ch, e]
    have hdp : (⟨t.a, t.b, n, 0, 0⟩ : Ky).dep = 3 := by simp [Ky.dep, hn, q1, q2]
    rw [hc, e]
    refine ⟨by constructor <;> simp <;> omega, hdp, ?_, ?_, ?_⟩
    · conv => rhs; rw [ht]
      simp [Ky.key, wd]
    · simp only [Ky.par, hdp]; exact ht.symm
    · simp only [Ky.last, hdp]; rfl
  · have q1 : t.a ≠ 0 := by omega
    have q2 : t.b ≠ 0 := by omega
    have q3 : t.c ≠ 0 := by omega
    have hc : t.ch n = ⟨t.a, t.b, t.c, n, 0⟩ := by simp only [Ky.ch, e]
    have hdp : (⟨t.a, t.b, t.c, n, 0⟩ : Ky).dep = 4 := by simp [Ky.dep, hn, q1, q2, q3]
    rw [hc, e]
    refine ⟨by constructor <;> simp <;> omega, hdp, ?_, ?_, ?_⟩
    · conv => rhs; rw [ht]
      simp [Ky.key, wd]
    · simp only [Ky.par, hdp]; exact ht.symm
    · simp only [Ky.last, hdp]; rfl
  · have q1 : t.a ≠ 0 := by omega
    have q2 : t.b ≠ 0 := by omega
    have q3 : t.c ≠ 0 := by omega
    have q4 : t.d ≠ 0 := by omega
    have hc : t.ch n = ⟨t.a, t.b, t.c, t.d, n⟩ := by simp only [Ky.ch, e]
    have hdp : (⟨t.a, t.b, t.c, t.d, n⟩ : Ky).dep = 5 := by simp [Ky.dep, hn, q1, q2, q3, q4]
    rw [hc, e]
    refine ⟨by constructor <;> simp <;> omega, hdp, ?_, ?_, ?_⟩
    · conv => rhs; rw [ht]
      simp [Ky.key, wd]
    · simp only [Ky.par, hdp]; exact ht.symm
    · simp only [Ky.last, hdp]; rfl
  · omega
/-- up again -/
theorem par_facts {t : Ky} (h : t.Ok) (hd : 0 < t.dep) : t.par.Ok ∧ t.par.dep + 1 = t.dep ∧ t.par.key = t.key - t.last * wd t.dep ∧ t.par.ch t.last = t ∧ 1 ≤ t.last ∧ t.last ≤ 1000 ∧ t.last = dg t.key t.dep := by
  obtain ⟨g1, g2, g3, g4, g5⟩ := dg_key h
  rcases h.form with ⟨e, ht⟩ | ⟨e, ht, p1, p2⟩ | ⟨e, ht, p1, p2, p3, p4⟩ | ⟨e, ht, p1, p2, p3, p4, p5, p6⟩ | ⟨e, ht, p1, p2, p3, p4, p5, p6, p7, p8⟩ | ⟨e, p1, p2, p3, p4, p5, p6, p7, p8, p9, p10⟩
  · omega
  · have hp : t.par = ⟨0, 0, 0, 0, 0⟩ := by simp only [Ky.par, e]
    have hl : t.last = t.a := by simp only [Ky.last, e]; rfl
    rw [hp, hl, e, g1]
    refine ⟨root_ok, rfl, ?_, ?_, p1, p2, rfl⟩
    · conv => rhs; rw [ht]
      simp [Ky.key, wd]
    · exact ht.symm
  · have q1 : t.a ≠ 0 := by omega
    have hp : t.par = ⟨t.a, 0, 0, 0, 0⟩ := by simp only [Ky.par, e]
    have hl : t.last = t.b := by simp only [Ky.last, e]; rfl
    have hdp : (⟨t.a, 0, 0, 0, 0⟩ : Ky).dep = 1 := by simp [Ky.dep, q1]
    rw [hp, hl, e, g2, hdp]
    refine ⟨by constructor <;> simp <;> omega, rfl, ?_, ?_, p3, p4, rfl⟩
    · conv => rhs; rw [ht]
      simp [Ky.key, wd]
    · simp only [Ky.ch, hdp]; exact ht.symm
  · have q1 : t.a ≠ 0 := by omega
    have q2 : t.b ≠ 0 := by omega
    have hp : t.par = ⟨t.a, t.b, 0, 0, 0⟩ := by simp only [Ky.par, e]
    have hl : t.last = t.c := by simp only [Ky.last, e]; rfl
    have hdp : (⟨t.a, t.b, 0, 0, 0⟩ : Ky).dep = 2 := by simp [Ky.dep, q1, q2]
    rw [hp, hl, e, g3, hdp]
    refine ⟨by constructor <;> simp <;> omega, rfl, ?_, ?_, p5, p6, rfl⟩
    · conv => rhs; rw [ht]
      simp [Ky.key, wd]
    · simp only [Ky.ch, hdp]; exact ht.symm
  · have q1 : t.a ≠ 0 := by omega
    have q2 : t.b ≠ 0 := by omega
    have q3 : t.c ≠ 0 := by omega
    have hp : t.par = ⟨t.a, t.b, t.c, 0, 0⟩ := by simp only [Ky.par, e]
    have hl : t.last = t.d := by simp only [Ky.last, e]; rfl
    have hdp : (⟨t.a, t.b, t.c, 0, 0⟩ : Ky).dep = 3 := by simp [Ky.dep, q1, q2, q3]
    rw [hp, hl, e, g4, hdp]
    refine ⟨by constructor <;> simp <;> omega, rfl, ?_, ?_, p7, p8, rfl⟩
    · conv => rhs; rw [ht]
      simp [Ky.key, wd]
    · simp only [Ky.ch, hdp]; exact ht.symm
  · have q1 : t.a ≠ 0 := by omega
    have q2 : t.b ≠ 0 := by omega
    have q3 : t.c ≠ 0 := by omega
    have q4 : t.d ≠ 0 := by omega
    have hp : t.par = ⟨t.a, t.b, t.c, t.d, 0⟩ := by simp only [Ky.par, e]
    have hl : t.last = t.e := by simp only [Ky.last, e]; rfl
    have hdp : (⟨t.a, t.b, t.c, t.d, 0⟩ : Ky).dep = 4 := by simp [Ky.dep, q1, q2, q3, q4]
    rw [hp, hl, e, g5, hdp]
    refine ⟨by constructor <;> simp <;> omega, rfl, ?_, ?_, p9, p10, rfl⟩
    · simp [Ky.key, wd]
    · simp only [Ky.ch, hdp]
theorem not_und_root {t : Ky} (h : t.Ok) (hd : t.dep = 0) {s : Ky} (k : s.Ok) : ¬ und t s := by
  rcases h.form with ⟨_, ht⟩ | ⟨e, _⟩ | ⟨e, _⟩ | ⟨e, _⟩ | ⟨e, _⟩ | ⟨e, _⟩
  · rintro ⟨h1, -⟩
    rw [ht] at h1
    have := (key_bd k).1
    simp [Ky.key] at h1
    unfold Ky.key at this
    omega
  all_goals omega
end Go.Proofs.Ytbmndicocdlhdaa
