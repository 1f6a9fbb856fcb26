/-
  Keys, plainly: a key told by its digits, one after the other.
-/
import Derived.Test.YtbmndicocdlhdaaKP3
namespace Go.Proofs.Ytbmndicocdlhdaa

theorem dig_bd (k : Int) : ∀ i, 0 ≤ dg k i ∧ dg k i ≤ 1023 := fun i => by unfold dg; omega
theorem dig_sum {k : Int} (h1 : 1125899906842624 ≤ k) (h2 : k < 2251799813685248) : k = 1125899906842624 + dg k 1 * 1099511627776 + dg k 2 * 1073741824 + dg k 3 * 1048576 + dg k 4 * 1024 + dg k 5 := (key_of h1 h2).symm
theorem isK_iff (k : Int) : isK k ↔ 1125899906842624 ≤ k ∧ k < 2251799813685248 ∧ dg k 1 ≤ 1000 ∧ dg k 2 ≤ 1000 ∧ dg k 3 ≤ 1000 ∧ dg k 4 ≤ 1000 ∧ dg k 5 ≤ 1000 ∧ (dg k 1 = 0 → dg k 2 = 0) ∧ (dg k 2 = 0 → dg k 3 = 0) ∧ (dg k 3 = 0 → dg k 4 = 0) ∧ (dg k 4 = 0 → dg k 5 = 0) := by
  constructor
  · rintro ⟨h1, h2, ⟨a0, a1, b0, b1, c0, c1, d0, d1, e0, e1, ab, bc, cd, de⟩⟩
    exact ⟨h1, h2, a1, b1, c1, d1, e1, ab, bc, cd, de⟩
  · rintro ⟨h1, h2, a1, b1, c1, d1, e1, ab, bc, cd, de⟩
    exact ⟨h1, h2, ⟨(dig_bd k 1).1, a1, (dig_bd k 2).1, b1, (dig_bd k 3).1, c1, (dig_bd k 4).1, d1, (dig_bd k 5).1, e1, ab, bc, cd, de⟩⟩
/-- the first i digits are numbers of forks -/
def DgOk (k : Int) (i : Nat) : Prop := ∀ j, 1 ≤ j → j ≤ i → 1 ≤ dg k j ∧ dg k j ≤ 1000
theorem DgOk.zero (k : Int) : DgOk k 0 := fun j h1 h2 => by omega
theorem DgOk.next {k : Int} {i : Nat} (h : DgOk k i) (h1 : 1 ≤ dg k (i + 1)) (h2 : dg k (i + 1) ≤ 1000) : DgOk k (i + 1) := fun j j1 j2 => by
  by_cases e : j = i + 1
  · subst e; exact ⟨h1, h2⟩
  · exact h j j1 (by omega)
theorem dep_of {a b c d e : Int} {i : Nat} (hi : i ≤ 5) (h1 : 1 ≤ i → a ≠ 0) (h2 : 2 ≤ i → b ≠ 0) (h3 : 3 ≤ i → c ≠ 0) (h4 : 4 ≤ i → d ≠ 0) (h5 : 5 ≤ i → e ≠ 0) (g1 : i = 0 → a = 0) (g2 : i = 1 → b = 0) (g3 : i = 2 → c = 0) (g4 : i = 3 → d = 0) (g5 : i = 4 → e = 0) : (⟨a, b, c, d, e⟩ : Ky).dep = i := by
  match i, hi with
  | 0, _ => simp [Ky.dep, g1]
  | 1, _ => simp [Ky.dep, h1, g2]
  | 2, _ => simp [Ky.dep, h1, h2, g3]
  | 3, _ => simp [Ky.dep, h1, h2, h3, g4]
  | 4, _ => simp [Ky.dep, h1, h2, h3, h4, g5]
  | 5, _ => simp [Ky.dep, h1, h2, h3, h4, h5]
set_option maxHeartbeats 1000000 in
theorem mes_key {k : Int} {i : Nat} (hi : i ≤ 5) (h1 : 1125899906842624 ≤ k) (h2 : k < 2251799813685248) (hd : DgOk k i) (he : i = 5 ∨ dg k (i + 1) = 0) : (isK k ↔ k / wd i * wd i = k) ∧ (isK k → (ofK k).dep = i) := by
  have hs := dig_sum h1 h2
  have q1 := dig_bd k 1
  have q2 := dig_bd k 2
  have q3 := dig_bd k 3
  have q4 := dig_bd k 4
  have q5 := dig_bd k 5
  have g1 := hd 1
  have g2 := hd 2
  have g3 := hd 3
  have g4 := hd 4
  have g5 := hd 5
  clear hd
  have f1 : i = 0 → dg k 1 = 0 := fun e => by subst e; simpa using he
  have f2 : i = 1 → dg k 2 = 0 := fun e => by subst e; simpa using he
  have f3 : i = 2 → dg k 3 = 0 := fun e => by subst e; simpa using he
  have f4 : i = 3 → dg k 4 = 0 := fun e => by subst e; simpa using he
  have f5 : i = 4 → dg k 5 = 0 := fun e => by subst e; simpa using he
  rw [isK_iff]
  refine ⟨⟨?_, fun h => ?_⟩, fun _ => dep_of hi (by omega) (by omega) (by omega) (by omega) (by omega) f1 f2 f3 f4 f5⟩
  · rintro ⟨-, -, -, -, -, -, -, u1, u2, u3, u4⟩
    match i, hi with
    | 0, _ => simp only [wd]; omega
    | 1, _ => simp only [wd]; omega
    | 2, _ => simp only [wd]; omega
    | 3, _ => simp only [wd]; omega
    | 4, _ => simp only [wd]; omega
    | 5, _ => simp only [wd]; omega
  · refine ⟨h1, h2, ?_⟩
    match i, hi with
    | 0, _ => simp only [wd] at h; omega
    | 1, _ => simp only [wd] at h; omega
    | 2, _ => simp only [wd] at h; omega
    | 3, _ => simp only [wd] at h; omega
    | 4, _ => simp only [wd] at h; omega
    | 5, _ => simp only [wd] at h; omega
theorem big_no {k : Int} {i : Nat} (h0 : 1 ≤ i) (hi : i ≤ 5) (h : 1000 < dg k i) : ¬ isK k := by
  rw [isK_iff]
  match i, h0, hi with
  | 1, _, _ => omega
  | 2, _, _ => omega
  | 3, _, _ => omega
  | 4, _, _ => omega
  | 5, _, _ => omega
theorem gap_no {k : Int} {i : Nat} (h0 : 1 ≤ i) (hi : i < 5) (h : dg k i = 0) (h2 : 0 < dg k (i + 1)) : ¬ isK k := by
  rw [isK_iff]
  match i, h0, hi with
  | 1, _, _ => simp only [Nat.reduceAdd] at h2; omega
  | 2, _, _ => simp only [Nat.reduceAdd] at h2; omega
  | 3, _, _ => simp only [Nat.reduceAdd] at h2; omega
  | 4, _, _ => simp only [Nat.reduceAdd] at h2; omega
/-- what the document's own Check has seen behind i digits -/
structure PreK (k : Int) (i : Nat) : Prop where
  few : ∀ j, 1 ≤ j → j ≤ i → dg k j ≤ 1000
  gap : ∀ j, 1 ≤ j → j < i → dg k j = 0 → dg k (j + 1) = 0
def enB (k : Int) (i : Nat) : Bool := decide (1 ≤ i ∧ dg k i = 0)
theorem PreK.zero (k : Int) : PreK k 0 := ⟨fun j h1 h2 => by omega, fun j h1 h2 => by omega⟩
theorem PreK.next {k : Int} {i : Nat} (h : PreK k i) (h1 : dg k (i + 1) ≤ 1000) (h2 : 0 < dg k (i + 1) → enB k i = false) : PreK k (i + 1) ∧ enB k (i + 1) = (enB k i || decide (dg k (i + 1) = 0)) := by
  have hb := (dig_bd k (i + 1)).1
  have hz : 1 ≤ i → dg k i = 0 → dg k (i + 1) = 0 := fun a b => by
    refine Classical.byContradiction fun hn => ?_
    have := h2 (by omega)
    simp [enB, a, b] at this
  refine ⟨⟨fun j j1 j2 => ?_, fun j j1 j2 j3 => ?_⟩, ?_⟩
  · by_cases e : j = i + 1
    · subst e; exact h1
    · exact h.few j j1 (by omega)
  · by_cases e : j = i
    · subst e; exact hz j1 j3
    · exact h.gap j j1 (by omega) j3
  · by_cases e : dg k (i + 1) = 0
    · simp [enB, e]
    · have : ¬ (1 ≤ i ∧ dg k i = 0) := fun hh => e (hz hh.1 hh.2)
      simp [enB, e, this]
theorem PreK.done {k : Int} (h : PreK k 5) (h1 : 1125899906842624 ≤ k) (h2 : k < 2251799813685248) : isK k := by
  rw [isK_iff]
  exact ⟨h1, h2, h.few 1 (by omega) (by omega), h.few 2 (by omega) (by omega), h.few 3 (by omega) (by omega), h.few 4 (by omega) (by omega), h.few 5 (by omega) (by omega), h.gap 1 (by omega) (by omega), h.gap 2 (by omega) (by omega), h.gap 3 (by omega) (by omega), h.gap 4 (by omega) (by omega)⟩
/-- a key's depth by its digits -/
theorem dep_at {k : Int} (hk : isK k) {i : Nat} (hi : i ≤ 5) (hd : ∀ j, 1 ≤ j → j ≤ i → 0 < dg k j) (he : i = 5 ∨ dg k (i + 1) = 0) : (ofK k).dep = i := by
  have h := hk
  rw [isK_iff] at h
  obtain ⟨h1, h2, a1, b1, c1, d1, e1, -⟩ := h
  refine (mes_key hi h1 h2 (fun j j1 j2 => ⟨hd j j1 j2, ?_⟩) he).2 hk
  have hj : j ≤ 5 := by omega
  match j, j1, hj with
  | 1, _, _ => exact a1
  | 2, _, _ => exact b1
  | 3, _, _ => exact c1
  | 4, _, _ => exact d1
  | 5, _, _ => exact e1
/-! ### the answers -/
def okK (k : Int) : Bool := decide (isK k)
def dpN (k : Int) : Nat := if isK k then (ofK k).dep else 0
def chO (k n : Int) : Bool := decide (isK k ∧ (ofK k).dep < 5 ∧ 1 ≤ n ∧ n ≤ 1000)
def chK (k n : Int) : Int := if isK k ∧ (ofK k).dep < 5 ∧ 1 ≤ n ∧ n ≤ 1000 then ((ofK k).ch n).key else 0
def paO (k : Int) : Bool := decide (isK k ∧ 0 < (ofK k).dep)
def paK (k : Int) : Int := if isK k ∧ 0 < (ofK k).dep then (ofK k).par.key else 0
def paN (k : Int) : Int := if isK k ∧ 0 < (ofK k).dep then (ofK k).last else 0
def unB (a b : Int) : Bool := decide (isK a ∧ isK b ∧ und (ofK a) (ofK b))
def ahB (a b : Int) : Bool := decide (isK a ∧ isK b ∧ (ofK a).rank < (ofK b).rank)
theorem dpN_le (k : Int) : dpN k ≤ 5 := by
  unfold dpN
  split
  · exact dep_le _
  · omega
theorem ok_key {t : Ky} (h : t.Ok) : okK t.key = true := decide_eq_true (isK_key h)
theorem dp_key {t : Ky} (h : t.Ok) : dpN t.key = t.dep := by rw [dpN, if_pos (isK_key h), of_key h]
theorem chO_key {t : Ky} (h : t.Ok) (n : Int) : chO t.key n = decide (t.dep < 5 ∧ 1 ≤ n ∧ n ≤ 1000) := by
  simp only [chO, isK_key h, of_key h, true_and]
theorem chK_key {t : Ky} (h : t.Ok) {n : Int} (hd : t.dep < 5) (h1 : 1 ≤ n) (h2 : n ≤ 1000) : chK t.key n = (t.ch n).key := by
  simp only [chK, isK_key h, of_key h, true_and]
  exact if_pos ⟨hd, h1, h2⟩
theorem chO_no {k n : Int} (h : chO k n = false) : chK k n = 0 := if_neg (of_decide_eq_false h)
theorem paO_key {t : Ky} (h : t.Ok) : paO t.key = decide (0 < t.dep) := by simp only [paO, isK_key h, of_key h, true_and]
theorem paK_key {t : Ky} (h : t.Ok) (hd : 0 < t.dep) : paK t.key = t.par.key ∧ paN t.key = t.last := by
  simp only [paK, paN, isK_key h, of_key h, true_and, if_pos hd, and_self]
theorem paO_no {k : Int} (h : paO k = false) : paK k = 0 ∧ paN k = 0 := ⟨if_neg (of_decide_eq_false h), if_neg (of_decide_eq_false h)⟩
theorem un_key {t s : Ky} (h : t.Ok) (k : s.Ok) : unB t.key s.key = decide (und t s) := by simp only [unB, isK_key h, isK_key k, of_key h, of_key k, true_and]
theorem ah_key {t s : Ky} (h : t.Ok) (k : s.Ok) : ahB t.key s.key = decide (t.rank < s.rank) := by simp only [ahB, isK_key h, isK_key k, of_key h, of_key k, true_and]
theorem ok_cases (k : Int) : (∃ t : Ky, t.Ok ∧ k = t.key) ∨ okK k = false := by
  by_cases h : isK k
  · exact .inl h.open
  · exact .inr (decide_eq_false h)
theorem not_ok {k : Int} (h : okK k = false) : ¬ isK k := of_decide_eq_false h
theorem dp_no {k : Int} (h : okK k = false) : dpN k = 0 := if_neg (not_ok h)
theorem chO_bad {k : Int} (h : okK k = false) (n : Int) : chO k n = false := decide_eq_false fun x => not_ok h x.1
theorem paO_bad {k : Int} (h : okK k = false) : paO k = false := decide_eq_false fun x => not_ok h x.1
theorem un_bad1 {k : Int} (h : okK k = false) (s : Int) : unB k s = false := decide_eq_false fun x => not_ok h x.1
theorem un_bad2 {k : Int} (h : okK k = false) (s : Int) : unB s k = false := decide_eq_false fun x => not_ok h x.2.1
theorem ah_bad1 {k : Int} (h : okK k = false) (s : Int) : ahB k s = false := decide_eq_false fun x => not_ok h x.1
theorem ah_bad2 {k : Int} (h : okK k = false) (s : Int) : ahB s k = false := decide_eq_false fun x => not_ok h x.2.1
/-- by their intervals: what upTo tells -/
theorem und_up {t s : Ky} (h : t.Ok) (k : s.Ok) : und t s ↔ s.dep < t.dep ∧ t.key / wd s.dep * wd s.dep = s.key := by
  unfold und
  rcases k.num with ⟨Ds, Ks⟩ | ⟨yas, Ds, Ks, Ls, Bs0, Bs1⟩ | ⟨yas, ybs, Ds, Ks, Ls, Bs0, Bs1, Bs2, Bs3⟩ | ⟨yas, ybs, ycs, Ds, Ks, Ls, Bs0, Bs1, Bs2, Bs3, Bs4, Bs5⟩ | ⟨yas, ybs, ycs, yds, Ds, Ks, Ls, Bs0, Bs1, Bs2, Bs3, Bs4, Bs5, Bs6, Bs7⟩ | ⟨yas, ybs, ycs, yds, yes, Ds, Ks, Ls, Bs0, Bs1, Bs2, Bs3, Bs4, Bs5, Bs6, Bs7, Bs8, Bs9⟩
  all_goals
    rcases h.num with ⟨Dt, Kt⟩ | ⟨yat, Dt, Kt, Lt, Bt0, Bt1⟩ | ⟨yat, ybt, Dt, Kt, Lt, Bt0, Bt1, Bt2, Bt3⟩ | ⟨yat, ybt, yct, Dt, Kt, Lt, Bt0, Bt1, Bt2, Bt3, Bt4, Bt5⟩ | ⟨yat, ybt, yct, ydt, Dt, Kt, Lt, Bt0, Bt1, Bt2, Bt3, Bt4, Bt5, Bt6, Bt7⟩ | ⟨yat, ybt, yct, ydt, yet, Dt, Kt, Lt, Bt0, Bt1, Bt2, Bt3, Bt4, Bt5, Bt6, Bt7, Bt8, Bt9⟩
    all_goals
      rw [Dt, Ds]
      simp only [wd]
      omega
/-- a parent's key by upTo -/
theorem par_up {t : Ky} (h : t.Ok) (hd : 0 < t.dep) : t.key / wd (t.dep - 1) * wd (t.dep - 1) = t.par.key := by
  obtain ⟨p1, p2, p3, -, p5, p6, -⟩ := par_facts h hd
  rcases h.num with ⟨Dt, Kt⟩ | ⟨yat, Dt, Kt, Lt, Bt0, Bt1⟩ | ⟨yat, ybt, Dt, Kt, Lt, Bt0, Bt1, Bt2, Bt3⟩ | ⟨yat, ybt, yct, Dt, Kt, Lt, Bt0, Bt1, Bt2, Bt3, Bt4, Bt5⟩ | ⟨yat, ybt, yct, ydt, Dt, Kt, Lt, Bt0, Bt1, Bt2, Bt3, Bt4, Bt5, Bt6, Bt7⟩ | ⟨yat, ybt, yct, ydt, yet, Dt, Kt, Lt, Bt0, Bt1, Bt2, Bt3, Bt4, Bt5, Bt6, Bt7, Bt8, Bt9⟩
  all_goals
    rw [Dt] at p3 hd ⊢
    simp only [wd] at p3 ⊢
    omega
theorem ah_iff {t s : Ky} (h : t.Ok) (k : s.Ok) : t.rank < s.rank ↔ und t s ∨ (¬ und s t ∧ t.key < s.key) := by
  rw [← ahd_rank h k, ahd]
  constructor
  · exact fun x => x.2
  · intro x
    refine ⟨fun e => ?_, x⟩
    subst e
    rcases x with x | ⟨-, x⟩
    · exact und_irr _ x
    · omega
end Go.Proofs.Ytbmndicocdlhdaa
