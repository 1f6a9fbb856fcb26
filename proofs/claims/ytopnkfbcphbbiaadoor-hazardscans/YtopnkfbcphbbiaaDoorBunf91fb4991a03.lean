/-
  Helpers: Zx, Ka, Kb.
-/
import Derived.Test.YtopnkfbcphbbiaaDoorBunc2e49074374f
namespace Go.Proofs.YtopnkfbcphbbiaaDoor
open Go.RowKit
open H8 (okP sizeF HTab below_then placeI placeI_bd place_any)
open A9 (Ab ArAt FrA Ar setRawA ptrA NAt useA upN)
open F0 (Pl5 plBox sumN)
open S1 (RowO PlS plK plK_ok grs clN Mc szO szF)

section
variable {K M T i0 cg k n N : Nat} {s s' : Ar} {ls : Nat → List Nat} {wt l l' : List Int} {x : Int}
theorem sumN_none {f : Nat → Nat} : ∀ {k : Nat}, (∀ i, i < k → f i = 0) → sumN f k = 0
  | 0, _ => rfl
  | k + 1, h => by
    show sumN f k + f k = 0
    rw [sumN_none fun i hi => h i (by omega), h k (by omega)]
/-- where nothing waits nothing is counted -/
theorem Wx.counts (h : Wx K M s i0 cg ls [] [] none none T) : s.cL = 0 ∧ s.cR = 0 := by
  obtain ⟨⟨k, hd, lk, gn, cl, own, mc, h1, h2, h3, h4, h5, h6, h7, h8, h9⟩, -⟩ := h
  have e1 : ∀ v, v < k → szO (own v) = 0 := fun v hv => by
    by_cases e : v = 0
    · subst e
      rw [h3]
      rfl
    · rw [h5 v (by omega)]
      rfl
  have e2 : ∀ v, v < k → szF (mc v) = 0 := fun v hv => by
    have : mc v = none := by
      by_cases e : v = 0
      · subst e
        exact h4
      · cases hm : mc v with
        | none => rfl
        | some m =>
          obtain ⟨y, hy, -⟩ := h7 v m (by omega) hv hm
          simp at hy
    rw [this]
    rfl
  rw [h1.N.cL, h1.N.cR, sumN_none e1, sumN_none e2]
  exact ⟨rfl, rfl⟩
/-- names that wait, others free -/
structure Ts (k n : Nat) (s : Ar) (l : List Int) (N T : Nat) : Prop where
  W : ∃ ls, Wx (4 * k) (grs (8 * n)) s 0 n ls [] l none none T ∧ (ls 0).length + l.length = n
  nw : s.nw = 8 * n
  nr : s.nr = 4 * k + grs (8 * n) + grs (8 * n) + 1 + 2 * k
  nm : ∀ x, x ∈ l → clN x = 0 ∧ x ≠ 0
  bad : s.bad = false
  fresh : s.fresh = false
  us : 0 ≤ s.uses ∧ s.uses ≤ N
  cC : s.cC = 8 * n
theorem Rt.ts (h : Rt k n s l N) (hk : 1 ≤ k) : Ts k n s l N (3 * n) := ⟨⟨_, h.W 0 rfl (by omega), by simpa using h.len⟩, h.nw, h.nr, h.nm, h.bad, h.fresh, h.us, h.cC⟩
theorem set_in2 (hnr : s.nr = 4 * k + grs (8 * n) + grs (8 * n) + 1 + 2 * k) {j : Nat} (hj : j < 2 * k) (x : Int) : setRawA s ((wAt k n + j : Nat) : Int) x = { useA s with raw := upN s.raw (wAt k n + j) x } := by
  have e : A9.inR s ((wAt k n + j : Nat) : Int) := by
    unfold A9.inR wAt
    omega
  unfold setRawA
  rw [if_pos e]
  rfl
theorem set_raw2 (hnr : s.nr = 4 * k + grs (8 * n) + grs (8 * n) + 1 + 2 * k) {j : Nat} (hj : j < 2 * k) (x : Int) (i : Nat) : (setRawA s ((wAt k n + j : Nat) : Int) x).raw (wAt k n + i) = if i = j then x else s.raw (wAt k n + i) := by
  rw [set_in2 hnr hj x]
  show upN s.raw (wAt k n + j) x (wAt k n + i) = _
  unfold upN
  by_cases e : i = j
  · rw [if_pos (by omega), if_pos e]
  · rw [if_neg (by omega), if_neg e]
theorem Ts.word (h : Ts k n s l N T) {j : Nat} (hj : j < 2 * k) (hN : N ≤ 100000000) (x : Int) : Ts k n (setRawA s ((wAt k n + j : Nat) : Int) x) l (N + 1) T := by
  have hnr := h.nr
  have e := set_in2 h.nr hj x
  obtain ⟨u1, u2⟩ := h.us
  obtain ⟨ls, h1, h2⟩ := h.W
  refine ⟨⟨ls, h1.word (by unfold wAt; omega) (by unfold wAt; omega) x, h2⟩, ?_, ?_, h.nm, ?_, ?_, ?_, ?_⟩
  · rw [e]; exact h.nw
  · rw [e]; exact h.nr
  · rw [e]; exact h.bad
  · rw [e]; exact h.fresh
  · rw [e]
    show 0 ≤ wrap64 (s.uses + 1) ∧ wrap64 (s.uses + 1) ≤ _
    rw [A9.wr64_id (by omega) (by omega)]
    omega
  · rw [e]; exact h.cC
theorem Ts.ok (h : Ts k n s l N T) (hk : 1 ≤ k) (hk2 : k ≤ 50) (hn : n ≤ 50) (hN : N ≤ 100000000) (hT : T ≤ 800000) : ∃ ls, ScOk (4 * k) (grs (8 * n)) (tbl k n 0) s n ls [] l T ∧ (ls 0).length + l.length = n := by
  obtain ⟨ls, h1, h2⟩ := h.W
  refine ⟨ls, ⟨h1, by omega, fun x hx => (h.nm x hx).1, ⟨?_, ?_, ?_, ?_⟩, hk, ?_, by have := h.us; omega, ?_⟩, h2⟩
  · show k ≤ 1000
    omega
  · show wAt k n ≤ 100000
    have := S1.grs (8 * n)
    unfold wAt
    have : grs (8 * n) ≤ 100 := by rw [grs_8]; omega
    omega
  · show wAt k n + 2 * k ≤ s.nr
    rw [h.nr]
    exact Nat.le_refl _
  · show 4 * k + grs (8 * n) + grs (8 * n) < wAt k n
    exact Nat.lt_succ_self _
  · show T + (2 * k + 3 * l.length) ≤ 900000
    omega
  · show 2 * k + 3 * l.length ≤ 2000
    omega
theorem Ts.end_ (h : Ts k n s l N T) (hE : ScE (4 * k) (grs (8 * n)) (tbl k n 0) s l n ls [] T s') (hlen : (ls 0).length + l.length = n) (hk : k ≤ 50) (hn : n ≤ 50) {N' T' : Nat} (hN : N + 300 ≤ N') (hT : T + 300 ≤ T') : Ts k n s' (l.filter (nmd s (tbl k n 0))) N' T' := by
  obtain ⟨ls', T2, x1, x2, x3⟩ := hE.W
  have x4 : T2 ≤ T + (2 * k + 3 * l.length) := x2
  have x5 : (ls' 0).length + (l.filter (nmd s (tbl k n 0))).length = (ls 0).length + l.length := x3
  obtain ⟨u1, u2⟩ := hE.us
  have u3 : s.uses + 2 * (k : Int) ≤ s'.uses := u1
  have u4 : s'.uses ≤ s.uses + (2 * (k : Int) + 3 * (l.length : Int)) := u2
  have := h.us
  refine ⟨⟨ls', x1.wide (by omega), by omega⟩, hE.nw.trans h.nw, hE.nr.trans h.nr, fun y hy => h.nm y (List.mem_filter.1 hy).1, hE.bad.trans h.bad, hE.fresh.trans h.fresh, by omega, hE.cC.trans h.cC⟩
end
/-- the words of the first lookers, from a on -/
def wfT (a b : Nat) (x : Int) (j : Nat) : Int := if a ≤ j / 2 ∧ j / 2 < b ∧ j % 2 = (j / 2) % 2 then x else 0
theorem wf_iff (b j : Nat) : (j = 2 * b + b % 2) = (j / 2 = b ∧ j % 2 = (j / 2) % 2) := propext ⟨fun h => by
  have h1 : j / 2 = b := by omega
  exact ⟨h1, by rw [h1]; omega⟩, fun ⟨h1, h2⟩ => by
  rw [h1] at h2
  omega⟩
theorem wf_put {a b : Nat} (h : a ≤ b) (x : Int) (j : Nat) : wfT a (b + 1) x j = if j = 2 * b + b % 2 then x else wfT a b x j := by
  simp only [wf_iff]
  unfold wfT
  by_cases e : j % 2 = (j / 2) % 2
  · by_cases e2 : j / 2 = b
    · rw [if_pos ⟨by omega, by omega, e⟩, if_pos ⟨e2, e⟩]
    · by_cases e3 : a ≤ j / 2 ∧ j / 2 < b
      · rw [if_pos ⟨by omega, by omega, e⟩, if_neg (fun hh => e2 hh.1), if_pos ⟨e3.1, e3.2, e⟩]
      · rw [if_neg (fun hh => e3 ⟨hh.1, by omega⟩), if_neg (fun hh => e2 hh.1), if_neg (fun hh => e3 ⟨hh.1, hh.2.1⟩)]
  · rw [if_neg (fun hh => e hh.2.2), if_neg (fun hh => e hh.2), if_neg (fun hh => e hh.2.2)]
theorem wf_del {a b : Nat} (x : Int) (j : Nat) : wfT (a + 1) b x j = if j = 2 * a + a % 2 then 0 else wfT a b x j := by
  simp only [wf_iff]
  unfold wfT
  by_cases e : j % 2 = (j / 2) % 2
  · by_cases e2 : j / 2 = a
    · rw [if_neg (fun hh => by omega), if_pos ⟨e2, e⟩]
    · by_cases e3 : a ≤ j / 2 ∧ j / 2 < b
      · rw [if_pos ⟨by omega, by omega, e⟩, if_neg (fun hh => e2 hh.1), if_pos ⟨e3.1, e3.2, e⟩]
      · rw [if_neg (fun hh => e3 ⟨by omega, hh.2.1⟩), if_neg (fun hh => e2 hh.1), if_neg (fun hh => e3 ⟨hh.1, hh.2.1⟩)]
  · rw [if_neg (fun hh => e hh.2.2), if_neg (fun hh => e hh.2), if_neg (fun hh => e hh.2.2)]
theorem wf_in {a b : Nat} (h : a < b) (x : Int) : wfT a b x (2 * a + a % 2) = x := by
  have h1 : (2 * a + a % 2) / 2 = a := by omega
  exact if_pos ⟨by omega, by omega, by rw [h1]; omega⟩
theorem wf_val (a b : Nat) (x : Int) (j : Nat) : wfT a b x j = x ∨ wfT a b x j = 0 := by
  unfold wfT
  split
  · exact .inl rfl
  · exact .inr rfl
theorem wf_no (a : Nat) (x : Int) (j : Nat) : wfT a a x j = 0 := if_neg (by omega)
/-- one alone of distinct ones -/
theorem filter_one {f : Int → Bool} : ∀ {l : List Int} {x : Int}, l.Nodup → x ∈ l → (∀ y, y ∈ l → (f y = true ↔ y = x)) → l.filter f = [x]
  | [], x, _, hx, _ => by simp at hx
  | a :: l, x, hn, hx, hf => by
    obtain ⟨h1, h2⟩ := List.nodup_cons.1 hn
    by_cases e : a = x
    · subst e
      rw [List.filter_cons_of_pos ((hf a (by simp)).2 rfl), filter_none fun y hy => ?_]
      cases hy2 : f y with
      | false => rfl
      | true =>
        have := (hf y (by simp [hy])).1 hy2
        exact absurd (this ▸ hy) h1
    · have hfa : ¬ f a = true := fun hh => e ((hf a (by simp)).1 hh)
      rw [List.filter_cons_of_neg hfa]
      rcases List.mem_cons.1 hx with rfl | hx
      · exact absurd rfl e
      · exact filter_one h2 hx fun y hy => hf y (by simp [hy])
end Go.Proofs.YtopnkfbcphbbiaaDoor
namespace Go.Proofs.YtopnkfbcphbbiaaDoor
open Go.RowKit
open H8 (okP sizeF isH)
open A9 (Ar useA Ok9 bornS retireS retireA diedS bN zN zN_bd inS rawA setRawA storeA loadA store_in load_in inW inR atW upN)
open F0 (Pu Po)
open S1 (Mc Out stepF grN clN grs)

/-- what the writer is about -/
inductive Md
  | idle
  | al (m : Mc)
  | sc (x : Sc)
def Md.wt (rt : List Int) : Md → List Int
  | .sc x => x.lf ++ x.hs
  | _ => rt
def Md.ok (K M : Nat) (t : Tb) (s : Ar) (cg : Nat) (ls : Nat → List Nat) (live rt : List Int) (T : Nat) : Md → Prop
  | .idle => Wx K M s (4 * t.wk) cg ls live rt none none T
  | .al m => Wx K M s (4 * t.wk) cg ls live rt (some m) none T
  | .sc x => ScI K M t s cg ls live none x T
/-- what a scan has done for one that a word tells -/
def Md.safe (k r : Nat) (h : Int) : Md → Prop
  | .sc x => x.lk ≤ 2 * r ∨ (2 * r < x.lk ∧ x.lk < 2 * k ∧ h ∈ x.sn) ∨ (¬ x.lk < 2 * k ∧ h ∈ x.lf)
  | _ => True
def Md.few (k : Nat) (rt : List Int) : Md → Prop
  | .sc x => rt.length ≤ 13 ∧ x.lf.length + x.hs.length ≤ 13 ∧ (x.lk < 2 * k → x.sn.length = x.lk) ∧ (¬ x.lk < 2 * k → x.lf.length ≤ 12)
  | _ => rt.length ≤ 13
/-- between scans -/
def Md.lo (rt : List Int) : Md → Prop
  | .sc _ => True
  | _ => rt.length ≤ 12
def cellL (c : Int) : List Int := if c = 0 then [] else [c]
def Prot (k X : Nat) (s : Ar) (c : Int) (rt : List Int) (md : Md) (r : Nat) (h : Int) : Prop := h ≠ 0 ∧ s.raw (X + 2 * r) = h ∧ (h = c ∨ (h ∈ md.wt rt ∧ md.safe k r h))
def RdOk (k X : Nat) (s : Ar) (c : Int) (rt : List Int) (md : Md) (r : Nat) (a h : Int) : Prop := (0 ≤ a ∧ a ≤ 6) ∧ (a = 2 → s.raw (X + 2 * r) = h) ∧ (3 ≤ a → Prot k X s c rt md r h)
structure Kp (k X : Nat) (s : Ar) (c : Int) (rt : List Int) (md : Md) (ph hd : Nat → Int) (T : Nat) : Prop where
  W : ∃ cg ls, md.ok (4 * k) (grs 400) ⟨X, k, 0⟩ s cg ls (cellL c) rt T
  few : md.few k rt
  cel : s.raw (X + 2 * k) = c
  mem : ∀ h, h ∈ cellL c ∨ h ∈ md.wt rt → s.mem (atW h 0) = h
  rd : ∀ r, 1 ≤ r → r < k → RdOk k X s c rt md r (ph r) (hd r)
  nw : s.nw = 400
  nr : s.nr = X + 2 * k + 1
  bad : s.bad = false
  fresh : s.fresh = false
  hX : X = 4 * k + grs 400 + grs 400 + 1
section
variable {k X T T' r : Nat} {s s' : Ar} {c h x : Int} {rt rt' : List Int} {md md' : Md} {ph hd : Nat → Int} {cg K M : Nat} {ls : Nat → List Nat} {live : List Int} {t : Tb} {sc : Sc}
theorem Md.ok.far (h : md.ok K M t s cg ls live rt T) (e1 : ∀ j, j ≤ K + M + M → s'.raw j = s.raw j) (e2 : s'.nr = s.nr) (e3 : s'.nw = s.nw) (e4 : s'.st = s.st) (e5 : s'.gen = s.gen) (e6 : s'.cL = s.cL) (e7 : s'.cR = s.cR) (e8 : s'.cC = s.cC) (e9 : s'.was = s.was) : md.ok K M t s' cg ls live rt T := by
  cases md with
  | idle => exact Wx.far h e1 e2 e3 e4 e5 e6 e7 e8 e9
  | al m => exact Wx.far h e1 e2 e3 e4 e5 e6 e7 e8 e9
  | sc x => exact ⟨Wx.far h.W e1 e2 e3 e4 e5 e6 e7 e8 e9, h.lk, h.lo⟩
/-- who waits, who lives -/
theorem Md.ok.waits (h : md.ok K M t s cg ls live rt T) {a : Int} (ha : a ∈ md.wt rt) : s.st a = 2 := by
  cases md with
  | idle => exact Wx.waits h ha
  | al m => exact Wx.waits h ha
  | sc x => exact h.W.waits ha
theorem Md.ok.lives (h : md.ok K M t s cg ls live rt T) {a : Int} (ha : a ∈ live) : s.st a = 1 := by
  cases md with
  | idle => exact Wx.lives h ha
  | al m => exact Wx.lives h ha
  | sc x => exact h.W.lives ha
theorem Md.ok.wide (h : md.ok K M t s cg ls live rt T) (hT : T ≤ T') : md.ok K M t s cg ls live rt T' := by
  cases md with
  | idle => exact Wx.wide h hT
  | al m => exact Wx.wide h hT
  | sc x => exact ⟨h.W.wide hT, h.lk, h.lo⟩
theorem Kp.wide (h : Kp k X s c rt md ph hd T) (hT : T ≤ T') : Kp k X s c rt md ph hd T' := by
  obtain ⟨cg, ls, h1⟩ := h.W
  exact { h with W := ⟨cg, ls, h1.wide hT⟩ }
theorem mem_cell (h : c ≠ 0) : c ∈ cellL c := by
  unfold cellL
  rw [if_neg h]
  simp
theorem cell_mem (h : x ∈ cellL c) : x = c ∧ c ≠ 0 := by
  unfold cellL at h
  split at h
  · simp at h
  · rename_i hc
    exact ⟨by simpa using h, hc⟩
/-- what a reader looks at is there, and tells its own name -/
theorem Kp.load (h : Kp k X s c rt md ph hd T) (h1 : 1 ≤ r) (h2 : r < k) (h3 : 3 ≤ ph r) : loadA s (hd r) 0 = (useA s, hd r) := by
  obtain ⟨cg, ls, hW⟩ := h.W
  obtain ⟨-, -, hp⟩ := h.rd r h1 h2
  obtain ⟨p1, p2, p3⟩ := hp h3
  have hm : hd r ∈ cellL c ∨ hd r ∈ md.wt rt := by
    rcases p3 with e | ⟨e, -⟩
    · exact .inl (by rw [e] at p1 ⊢; exact mem_cell p1)
    · exact .inr e
  have hst : s.st (hd r) ≠ 0 := by
    rcases hm with e | e
    · have := hW.lives e
      omega
    · have := hW.waits e
      omega
  have hz := zN_bd (hd r)
  rw [load_in ⟨hst, Int.le_refl _, by omega⟩, h.mem _ hm]
/-- the arena turns, but not what the others hang on -/
structure Still (k X : Nat) (s s' : Ar) : Prop where
  lo : ∀ j, j < X → s'.raw j = s.raw j
  cel : s'.raw (X + 2 * k) = s.raw (X + 2 * k)
  nr : s'.nr = s.nr
  nw : s'.nw = s.nw
  st : s'.st = s.st
  gen : s'.gen = s.gen
  cL : s'.cL = s.cL
  cR : s'.cR = s.cR
  cC : s'.cC = s.cC
  was : s'.was = s.was
  mem : s'.mem = s.mem
  bad : s'.bad = s.bad
  fresh : s'.fresh = s.fresh
theorem Still.use (k X : Nat) (s : Ar) : Still k X s (useA s) := ⟨fun _ _ => rfl, rfl, rfl, rfl, rfl, rfl, rfl, rfl, rfl, rfl, rfl, rfl, rfl⟩
theorem setW_eq (hnr : s.nr = X + 2 * k + 1) {j : Nat} (hj : j ≤ 2 * k) (x : Int) : setRawA s ((X + j : Nat) : Int) x = { useA s with raw := upN s.raw (X + j) x } := by
  have e : inR s ((X + j : Nat) : Int) := by
    unfold inR
    omega
  unfold setRawA
  rw [if_pos e]
  rfl
theorem Still.set (hnr : s.nr = X + 2 * k + 1) {j : Nat} (hj : j < 2 * k) (x : Int) : Still k X s (setRawA s ((X + j : Nat) : Int) x) := by
  rw [setW_eq hnr (by omega) x]
  refine ⟨fun i hi => ?_, ?_, rfl, rfl, rfl, rfl, rfl, rfl, rfl, rfl, rfl, rfl, rfl⟩
  · show upN s.raw (X + j) x i = _
    unfold upN
    rw [if_neg (by omega)]
  · show upN s.raw (X + j) x (X + 2 * k) = _
    unfold upN
    rw [if_neg (by omega)]
/-- a reader turns -/
theorem Kp.reader (h : Kp k X s c rt md ph hd T) (hS : Still k X s s') (hw : ∀ i, i < k → i ≠ r → s'.raw (X + 2 * i) = s.raw (X + 2 * i)) {a b : Int} (hn : RdOk k X s' c rt md r a b) : Kp k X s' c rt md (upN ph r a) (upN hd r b) T := by
  obtain ⟨cg, ls, hW⟩ := h.W
  have hX := h.hX
  refine ⟨⟨cg, ls, hW.far (fun j hj => hS.lo j (by omega)) hS.nr hS.nw hS.st hS.gen hS.cL hS.cR hS.cC hS.was⟩, h.few, hS.cel.trans h.cel, fun y hy => by rw [hS.mem]; exact h.mem y hy, fun i i1 i2 => ?_, hS.nw.trans h.nw, hS.nr.trans h.nr, hS.bad.trans h.bad, hS.fresh.trans h.fresh, hX⟩
  by_cases e : i = r
  · subst e
    simp only [upN, if_pos]
    exact hn
  · simp only [upN, if_neg e]
    obtain ⟨x1, x2, x3⟩ := h.rd i i1 i2
    have := hw i i2 e
    exact ⟨x1, fun hh => this.trans (x2 hh), fun hh => ⟨(x3 hh).1, this.trans (x3 hh).2.1, (x3 hh).2.2⟩⟩
/-- nothing turns but the number of uses -/
theorem Kp.use (h : Kp k X s c rt md ph hd T) : Kp k X (useA s) c rt md ph hd T := by
  obtain ⟨cg, ls, hW⟩ := h.W
  exact ⟨⟨cg, ls, hW.far (fun _ _ => rfl) rfl rfl rfl rfl rfl rfl rfl rfl⟩, h.few, h.cel, h.mem, h.rd, h.nw, h.nr, h.bad, h.fresh, h.hX⟩
theorem Kp.raw_cell (h : Kp k X s c rt md ph hd T) : rawA s ((X + 2 * k : Nat) : Int) = (useA s, c) := by
  have hnr := h.nr
  have e : inR s ((X + 2 * k : Nat) : Int) := by
    unfold inR
    omega
  unfold rawA
  rw [if_pos e]
  show (useA s, s.raw (X + 2 * k)) = _
  rw [h.cel]
/-- phase 0: a name is taken from the cell -/
theorem Kp.rd0 (h : Kp k X s c rt md ph hd T) : Kp k X (useA s) c rt md (upN ph r 1) (upN hd r c) T :=
  h.reader (Still.use _ _ _) (fun _ _ _ => rfl) ⟨by decide, fun e => absurd e (by decide), fun e => absurd e (by decide)⟩
/-- phase 1: it is told -/
theorem Kp.rd1 (h : Kp k X s c rt md ph hd T) (hr : r < k) : Kp k X (setRawA s ((X + 2 * r : Nat) : Int) (hd r)) c rt md (upN ph r 2) hd T := by
  have hS : Still k X s (setRawA s ((X + 2 * r : Nat) : Int) (hd r)) := Still.set h.nr (by omega) _
  have hraw : ∀ i, (setRawA s ((X + 2 * r : Nat) : Int) (hd r)).raw (X + 2 * i) = if i = r then hd r else s.raw (X + 2 * i) := fun i => by
    rw [setW_eq h.nr (by omega)]
    show upN s.raw (X + 2 * r) (hd r) (X + 2 * i) = _
    unfold upN
    by_cases e : i = r
    · rw [if_pos (by omega), if_pos e]
    · rw [if_neg (by omega), if_neg e]
  have h2 := h.reader (r := r) (a := 2) (b := hd r) hS (fun i _ hi => by rw [hraw, if_neg hi]) ⟨by decide, fun _ => by rw [hraw, if_pos rfl], fun e => absurd e (by decide)⟩
  have e : upN hd r (hd r) = hd := by
    funext i
    unfold upN
    split
    · rename_i e; rw [e]
    · rfl
  rw [e] at h2
  exact h2
/-- phase 2: the cell tells it still -/
theorem Kp.rd2 (h : Kp k X s c rt md ph hd T) (h1 : 1 ≤ r) (hr : r < k) (hp : ph r = 2) (hc : c = hd r) (hn : hd r ≠ 0) : Kp k X (useA s) c rt md (upN ph r 3) hd T := by
  obtain ⟨-, h2, -⟩ := h.rd r h1 hr
  have h3 := h.reader (r := r) (a := 3) (b := hd r) (Still.use _ _ _) (fun _ _ _ => rfl) ⟨by decide, fun e => absurd e (by decide), fun _ => ⟨hn, h2 hp, .inl hc.symm⟩⟩
  have e : upN hd r (hd r) = hd := by
    funext i
    unfold upN
    split
    · rename_i e; rw [e]
    · rfl
  rw [e] at h3
  exact h3
/-- any phase: back to the beginning -/
theorem Kp.rdB (h : Kp k X s c rt md ph hd T) (hS : Still k X s s') (hw : ∀ i, i < k → i ≠ r → s'.raw (X + 2 * i) = s.raw (X + 2 * i)) : Kp k X s' c rt md (upN ph r 0) hd T := by
  have h3 := h.reader (r := r) (a := 0) (b := hd r) hS hw ⟨by decide, fun e => absurd e (by decide), fun e => absurd e (by decide)⟩
  have e : upN hd r (hd r) = hd := by
    funext i
    unfold upN
    split
    · rename_i e; rw [e]
    · rfl
  rw [e] at h3
  exact h3
/-- phases 3, 4, 5: looked at -/
theorem Kp.rd3 (h : Kp k X s c rt md ph hd T) (h1 : 1 ≤ r) (hr : r < k) (hp : 3 ≤ ph r) (hp2 : ph r < 6) : Kp k X (useA s) c rt md (upN ph r (ph r + 1)) hd T := by
  obtain ⟨-, -, h2⟩ := h.rd r h1 hr
  have h3 := h.reader (r := r) (a := ph r + 1) (b := hd r) (Still.use _ _ _) (fun _ _ _ => rfl) ⟨by omega, fun e => absurd e (by omega), fun _ => h2 hp⟩
  have e : upN hd r (hd r) = hd := by
    funext i
    unfold upN
    split
    · rename_i e; rw [e]
    · rfl
  rw [e] at h3
  exact h3
/-- phase 6: the word is cleared -/
theorem Kp.rd6 (h : Kp k X s c rt md ph hd T) (hr : r < k) : Kp k X (setRawA s ((X + 2 * r : Nat) : Int) 0) c rt md (upN ph r 0) hd T :=
  h.rdB (Still.set h.nr (by omega) _) fun i _ hi => by
    rw [setW_eq h.nr (by omega)]
    show upN s.raw (X + 2 * r) 0 (X + 2 * i) = _
    unfold upN
    rw [if_neg (by omega)]
end
end Go.Proofs.YtopnkfbcphbbiaaDoor
namespace Go.Proofs.YtopnkfbcphbbiaaDoor
open Go.RowKit
open H8 (okP sizeF isH)
open A9 (Ar useA Ok9 bornS retireS retireA diedS bN zN zN_bd inS rawA setRawA storeA loadA store_in load_in inW inR atW upN)
open F0 (Pu Po)
open S1 (Mc Out stepF grN clN grs nmV nm_ne)

section
variable {k X T T' r K M i0 cg : Nat} {s s' : Ar} {c h x : Int} {rt rt' live wt : List Int} {md md' : Md} {ph hd : Nat → Int} {ls : Nat → List Nat} {t : Tb} {sc : Sc} {m : Mc}
/-- what the writer's steps leave to the readers -/
structure Stl2 (k X : Nat) (s s' : Ar) : Prop where
  hi : ∀ j, X ≤ j → s'.raw j = s.raw j
  nr : s'.nr = s.nr
  nw : s'.nw = s.nw
  mem : s'.mem = s.mem
  bad : s'.bad = s.bad
  fresh : s'.fresh = s.fresh
theorem Stl2.readers (hS : Stl2 k X s s') (h : Kp k X s c rt md ph hd T) (hm : ∀ r h, r < k → s.raw (X + 2 * r) = h → h ∈ md.wt rt → md.safe k r h → h ∈ md'.wt rt' ∧ md'.safe k r h) {r : Nat} (h1 : 1 ≤ r) (h2 : r < k) : RdOk k X s' c rt' md' r (ph r) (hd r) := by
  obtain ⟨x1, x2, x3⟩ := h.rd r h1 h2
  have e := hS.hi (X + 2 * r) (by omega)
  refine ⟨x1, fun hh => e.trans (x2 hh), fun hh => ?_⟩
  obtain ⟨y1, y2, y3⟩ := x3 hh
  refine ⟨y1, e.trans y2, ?_⟩
  rcases y3 with y3 | ⟨y3, y4⟩
  · exact .inl y3
  · exact .inr (hm r _ h2 y2 y3 y4)
/-- an alloc begins -/
theorem Kp.ask (h : Kp k X s c rt .idle ph hd T) (hk : 1 ≤ k) : Kp k X s c rt (.al (.pop 0 0 (k - 1) ⟨0, 0, 0⟩)) ph hd T := by
  obtain ⟨cg, ls, hW⟩ := h.W
  exact { h with
    W := ⟨cg, ls, Wx.ask hW (c := 0) (i := 0) (n := k - 1) (by omega) rfl⟩
    few := h.few
    mem := h.mem
    rd := h.rd }
theorem Kp.same2 (h : Kp k X s c rt (.al m) ph hd T) : Stl2 k X s (stepF (4 * k) (grs 400) s m).1 := by
  obtain ⟨cg, ls, hW⟩ := h.W
  have hX := h.hX
  obtain ⟨e1, e2, e3, e4⟩ := step_same (4 * k) (grs 400) s m
  exact ⟨fun j hj => Wx.farA hW (by omega), e1, e2, e4 h.fresh, (S1.step_uses _ _ s m).2, e3⟩
/-- an alloc goes on -/
theorem Kp.stepG (h : Kp k X s c rt (.al m) ph hd T) (hO : Ok9 s) (hT : T ≤ 1000000) {m' : Mc} (e : (stepF (4 * k) (grs 400) s m).2 = .go m') : Kp k X (stepF (4 * k) (grs 400) s m).1 c rt (.al m') ph hd (T + 1) := by
  have hS := h.same2
  obtain ⟨cg, ls, hW⟩ := h.W
  obtain ⟨cg', ls', hW2⟩ := Wx.stepA hW hO hT
  rw [e] at hW2
  exact ⟨⟨cg', ls', hW2⟩, h.few, (hS.hi _ (by omega)).trans h.cel, fun y hy => by rw [hS.mem]; exact h.mem y hy, fun r h1 h2 => hS.readers h (fun _ _ _ _ x y => ⟨x, y⟩) h1 h2, hS.nw.trans h.nw, hS.nr.trans h.nr, hS.bad.trans h.bad, hS.fresh.trans h.fresh, h.hX⟩
/-- an alloc finds nothing -/
theorem Kp.stepN (h : Kp k X s c rt (.al m) ph hd T) (hO : Ok9 s) (hT : T ≤ 1000000) (e : (stepF (4 * k) (grs 400) s m).2 = .refused) : Kp k X (stepF (4 * k) (grs 400) s m).1 c rt .idle ph hd (T + 1) := by
  have hS := h.same2
  obtain ⟨cg, ls, hW⟩ := h.W
  obtain ⟨cg', ls', hW2⟩ := Wx.stepA hW hO hT
  rw [e] at hW2
  exact ⟨⟨cg', ls', hW2⟩, h.few, (hS.hi _ (by omega)).trans h.cel, fun y hy => by rw [hS.mem]; exact h.mem y hy, fun r h1 h2 => hS.readers h (fun _ _ _ _ x y => ⟨x, y⟩) h1 h2, hS.nw.trans h.nw, hS.nr.trans h.nr, hS.bad.trans h.bad, hS.fresh.trans h.fresh, h.hX⟩
theorem wx_got (h : Wx K M s i0 cg ls live wt (some m) none T) (hO : Ok9 s) (hT : T ≤ 1000000) {a : Int} (ha : (stepF K M s m).2 = .got a) : a ≠ 0 := by
  obtain ⟨⟨k, hd, lk, gn, cl, own, mc, h1, h2, h3, h4, -⟩, -⟩ := h
  cases m with
  | gen c b =>
    obtain ⟨-, ok, hb, -⟩ := h1.gen hO hT (by omega : 0 < k) h4
    unfold stepF at ha
    simp only [h1.I.rw.gns b hb] at ha
    cases ha
    exact nm_ne ok
  | free h i m =>
    unfold stepF at ha
    dsimp only at ha
    split at ha
    · cases ha
    · split at ha
      · cases ha
      · split at ha <;> cases ha
  | pop c i n m =>
    unfold stepF at ha
    dsimp only at ha
    split at ha
    · split at ha <;> cases ha
    · split at ha
      · cases ha
      · split at ha <;> cases ha
  | look c =>
    unfold stepF at ha
    dsimp only at ha
    split at ha <;> cases ha
  | carve c v =>
    unfold stepF at ha
    dsimp only at ha
    split at ha <;> cases ha
/-- a name in one's own word -/
def keepS (k X : Nat) (s : Ar) (c h : Int) : Ar := if c = 0 then setRawA (useA (storeA s h 0 h)) ((X + 2 * k : Nat) : Int) h else retireS (setRawA (useA (storeA s h 0 h)) ((X + 2 * k : Nat) : Int) h) c
/-- a name is got: it is told by the cell, and what was there is retired -/
structure Gt (k X : Nat) (s : Ar) (c : Int) (rt : List Int) (ph hd : Nat → Int) (T : Nat) (h : Int) : Prop where
  W : ∃ cg ls, Wx (4 * k) (grs 400) s 0 cg ls (cellL c ++ [h]) rt none none T
  few : rt.length ≤ 12
  cel : s.raw (X + 2 * k) = c
  mem : ∀ h, h ∈ cellL c ∨ h ∈ rt → s.mem (atW h 0) = h
  rd : ∀ r, 1 ≤ r → r < k → RdOk k X s c rt .idle r (ph r) (hd r)
  nw : s.nw = 400
  nr : s.nr = X + 2 * k + 1
  bad : s.bad = false
  fresh : s.fresh = false
  hX : X = 4 * k + grs 400 + grs 400 + 1
  nz : h ≠ 0
theorem Kp.stepY (h : Kp k X s c rt (.al m) ph hd T) (hl : rt.length ≤ 12) (hO : Ok9 s) (hT : T ≤ 1000000) {a : Int} (e : (stepF (4 * k) (grs 400) s m).2 = .got a) : Gt k X (stepF (4 * k) (grs 400) s m).1 c rt ph hd (T + 1) a := by
  have hS := h.same2
  obtain ⟨cg, ls, hW⟩ := h.W
  obtain ⟨cg', ls', hW2⟩ := Wx.stepA hW hO hT
  have hz := wx_got hW hO hT e
  rw [e] at hW2
  exact ⟨⟨cg', ls', hW2⟩, hl, (hS.hi _ (by omega)).trans h.cel, fun y hy => by rw [hS.mem]; exact h.mem y hy, fun r h1 h2 => hS.readers h (fun _ _ _ _ x y => ⟨x, y⟩) h1 h2, hS.nw.trans h.nw, hS.nr.trans h.nr, hS.bad.trans h.bad, hS.fresh.trans h.fresh, h.hX, hz⟩
theorem Gt.lives (h : Gt k X s c rt ph hd T x) {y : Int} (hy : y ∈ cellL c ++ [x]) : s.st y = 1 := by
  obtain ⟨cg, ls, hW⟩ := h.W
  exact hW.lives hy
theorem Gt.inW (h : Gt k X s c rt ph hd T x) : inW s x 0 := by
  have := h.lives (y := x) (by simp)
  have := zN_bd x
  exact ⟨by omega, Int.le_refl _, by omega⟩
theorem atW_inS (h : Int) : inS h (atW h 0) := by
  have := zN_bd h
  unfold inS atW
  simp only [Int.toNat_zero, Nat.add_zero]
  omega
/-- its own word, and the cell -/
theorem Gt.store (h : Gt k X s c rt ph hd T x) : storeA s x 0 x = { useA s with mem := upN s.mem (atW x 0) x } := store_in h.inW
theorem Gt.raw (h : Gt k X s c rt ph hd T x) : rawA (storeA s x 0 x) ((X + 2 * k : Nat) : Int) = (useA (storeA s x 0 x), c) := by
  rw [h.store]
  have hnr := h.nr
  have e : inR ({ useA s with mem := upN s.mem (atW x 0) x } : Ar) ((X + 2 * k : Nat) : Int) := by
    show (0 : Int) ≤ _ ∧ _ < (s.nr : Int)
    omega
  unfold rawA
  rw [if_pos e]
  show (_, s.raw (X + 2 * k)) = _
  rw [h.cel]
theorem Gt.set (h : Gt k X s c rt ph hd T x) : setRawA (useA (storeA s x 0 x)) ((X + 2 * k : Nat) : Int) x = { useA (useA (useA s)) with mem := upN s.mem (atW x 0) x, raw := upN s.raw (X + 2 * k) x } := by
  rw [setW_eq (s := useA (storeA s x 0 x)) (by rw [h.store]; exact h.nr) (Nat.le_refl _) x, h.store]
  rfl
/-- before the old one is retired -/
theorem Gt.kept (h : Gt k X s c rt ph hd T x) (hO : Ok9 s) (hT : T ≤ 1000000) : Kp k X (keepS k X s c x) x (if c = 0 then rt else rt ++ [c]) .idle ph hd T := by
  obtain ⟨cg, ls, hW⟩ := h.W
  have hX := h.hX
  have hW4 : Wx (4 * k) (grs 400) (setRawA (useA (storeA s x 0 x)) ((X + 2 * k : Nat) : Int) x) 0 cg ls (cellL c ++ [x]) rt none none T := by
    rw [h.set]
    refine hW.far (fun j hj => ?_) rfl rfl rfl rfl rfl rfl rfl rfl
    show upN s.raw (X + 2 * k) x j = _
    unfold upN
    rw [if_neg (by omega)]
  have hmem : ∀ y, y ∈ cellL c ++ [x] ∨ y ∈ rt → upN s.mem (atW x 0) x (atW y 0) = y := fun y hy => by
    have hst : s.st y ≠ 0 := by
      rcases hy with hy | hy
      · have := hW.lives hy
        omega
      · have := hW.waits hy
        omega
    unfold upN
    split
    · rename_i e
      have hx := h.lives (y := x) (by simp)
      have := atW_inS y
      exact hO.two x y (atW x 0) (by omega) hst (atW_inS x) (e ▸ this)
    · rename_i e
      rcases hy with hy | hy
      · rcases List.mem_append.1 hy with hy | hy
        · exact h.mem y (.inl hy)
        · simp only [List.mem_singleton] at hy
          rw [hy] at e
          exact absurd rfl e
      · exact h.mem y (.inr hy)
  have hraw : ∀ r, r < k → upN s.raw (X + 2 * k) x (X + 2 * r) = s.raw (X + 2 * r) := fun r hr => by
    unfold upN
    rw [if_neg (by omega)]
  have hcel : upN s.raw (X + 2 * k) x (X + 2 * k) = x := by unfold upN; rw [if_pos rfl]
  by_cases hc : c = 0
  · subst hc
    rw [if_pos rfl]
    have e0 : keepS k X s 0 x = setRawA (useA (storeA s x 0 x)) ((X + 2 * k : Nat) : Int) x := if_pos rfl
    rw [e0]
    have hW5 := hW4
    rw [h.set] at hW5 ⊢
    refine ⟨⟨cg, ls, ?_⟩, by have := h.few; show rt.length ≤ 13; omega, hcel, fun y hy => hmem y ?_, fun r h1 h2 => ?_, h.nw, h.nr, h.bad, h.fresh, hX⟩
    · have e1 : cellL x = cellL 0 ++ [x] := by unfold cellL; rw [if_neg h.nz, if_pos rfl]; rfl
      rw [e1]
      exact hW5
    · rcases hy with hy | hy
      · exact .inl (by simp [(cell_mem hy).1])
      · exact .inr hy
    · obtain ⟨x1, x2, x3⟩ := h.rd r h1 h2
      refine ⟨x1, fun hh => (hraw r h2).trans (x2 hh), fun hh => ?_⟩
      obtain ⟨y1, y2, y3⟩ := x3 hh
      refine ⟨y1, (hraw r h2).trans y2, ?_⟩
      rcases y3 with y3 | y3
      · exact absurd y3 y1
      · exact .inr y3
  · rw [if_neg hc]
    have e0 : keepS k X s c x = retireS (setRawA (useA (storeA s x 0 x)) ((X + 2 * k : Nat) : Int) x) c := if_neg hc
    rw [e0]
    have e1 : cellL c ++ [x] = [] ++ c :: [x] := by unfold cellL; rw [if_neg hc]; rfl
    rw [e1] at hW4
    have hW5 := hW4.retire hT
    rw [h.set] at hW5 ⊢
    refine ⟨⟨cg, ls, ?_⟩, by have := h.few; show (rt ++ [c]).length ≤ 13; rw [List.length_append]; show rt.length + 1 ≤ 13; omega, hcel, fun y hy => hmem y ?_, fun r h1 h2 => ?_, h.nw, h.nr, h.bad, h.fresh, hX⟩
    · have e2 : cellL x = [] ++ [x] := by unfold cellL; rw [if_neg h.nz]; rfl
      rw [e2]
      exact hW5
    · rcases hy with hy | hy
      · exact .inl (by simp [(cell_mem hy).1])
      · rcases List.mem_append.1 hy with hy | hy
        · exact .inr hy
        · simp only [List.mem_singleton] at hy
          rw [hy]
          exact .inl (List.mem_append_left _ (mem_cell hc))
    · obtain ⟨x1, x2, x3⟩ := h.rd r h1 h2
      refine ⟨x1, fun hh => (hraw r h2).trans (x2 hh), fun hh => ?_⟩
      obtain ⟨y1, y2, y3⟩ := x3 hh
      refine ⟨y1, (hraw r h2).trans y2, .inr ⟨?_, trivial⟩⟩
      rcases y3 with y3 | y3
      · show hd r ∈ rt ++ [c]
        rw [y3]
        simp
      · show hd r ∈ rt ++ [c]
        exact List.mem_append_left _ y3.1
/-- a scan begins -/
theorem Kp.scan (h : Kp k X s c rt .idle ph hd T) : Kp k X s c rt (.sc ⟨0, [], rt, [], none⟩) ph hd T := by
  obtain ⟨cg, ls, hW⟩ := h.W
  refine { h with
    W := ⟨cg, ls, ⟨?_, Nat.zero_le _, fun _ => ⟨rfl, rfl⟩⟩⟩
    few := ⟨h.few, ?_, fun _ => rfl, fun _ => Nat.zero_le _⟩
    mem := h.mem
    rd := fun r h1 h2 => ?_ }
  · rw [frO_none rfl]
    exact hW
  · show 0 + rt.length ≤ 13
    rw [Nat.zero_add]
    exact h.few
  · obtain ⟨x1, x2, x3⟩ := h.rd r h1 h2
    refine ⟨x1, x2, fun hh => ?_⟩
    obtain ⟨y1, y2, y3⟩ := x3 hh
    exact ⟨y1, y2, y3.imp id fun hy => ⟨hy.1, .inl (Nat.zero_le _)⟩⟩
/-- a scan has ended: what is left waits on -/
theorem Kp.ended (h : Kp k X s c rt (.sc sc) ph hd T) (he : endS ⟨X, k, 0⟩ sc = true) : Kp k X s c sc.lf .idle ph hd T ∧ sc.lf.length ≤ 12 := by
  obtain ⟨cg, ls, hW⟩ := h.W
  obtain ⟨f1, f2, f3, f4⟩ := h.few
  unfold endS at he
  simp only [Bool.and_eq_true, Bool.not_eq_true', decide_eq_false_iff_not] at he
  obtain ⟨hl, he⟩ := he
  have hs : sc.hs = [] := by simpa using he
  have hlf := f4 hl
  have hW2 := hW.W
  have hf : frO sc = none := by
    unfold frO
    rw [hs]
  rw [hf, hs, List.append_nil] at hW2
  refine ⟨{ h with
    W := ⟨cg, ls, hW2⟩
    few := by show sc.lf.length ≤ 13; omega
    mem := fun y hy => h.mem y (hy.imp id fun hy => by show y ∈ sc.lf ++ sc.hs; exact List.mem_append_left _ hy)
    rd := fun r h1 h2 => ?_ }, hlf⟩
  obtain ⟨x1, x2, x3⟩ := h.rd r h1 h2
  refine ⟨x1, x2, fun hh => ?_⟩
  obtain ⟨y1, y2, y3⟩ := x3 hh
  refine ⟨y1, y2, y3.imp id fun ⟨hy, hz⟩ => ⟨?_, trivial⟩⟩
  have hy2 : hd r ∈ sc.lf ++ sc.hs := hy
  rw [hs, List.append_nil] at hy2
  exact hy2
theorem sub_len : ∀ {l : List Int} {m : List Int}, l.Nodup → (∀ x, x ∈ l → x ∈ m) → l.length ≤ m.length
  | [], m, _, _ => Nat.zero_le _
  | a :: l, m, hn, hs => by
    obtain ⟨h1, h2⟩ := List.nodup_cons.1 hn
    have ha := hs a (by simp)
    have := sub_len (l := l) (m := m.erase a) h2 fun x hx => by
      have hne : x ≠ a := fun e => h1 (e ▸ hx)
      exact (List.mem_erase_of_ne hne).2 (hs x (by simp [hx]))
    rw [List.length_erase_of_mem ha] at this
    have := List.length_pos_of_mem ha
    simp only [List.length_cons]
    omega
/-- a scan looks at a word -/
theorem Kp.look (h : Kp k X s c rt (.sc sc) ph hd T) (hk : k ≤ 6) (hl : sc.lk < 2 * k) : Kp k X (useA s) c rt (.sc (scLook ⟨X, k, 0⟩ sc (s.raw (X + sc.lk)))) ph hd T := by
  obtain ⟨cg, ls, hW⟩ := h.W
  obtain ⟨f1, f2, f3, f4⟩ := h.few
  obtain ⟨l1, l2⟩ := hW.lo hl
  have hW2 := ScI.look hW hl (s.raw (X + sc.lk))
  have hnd := hW.W.nd
  rw [l1, List.nil_append] at hnd
  have hsn := f3 hl
  have hh := h.use
  generalize hv : s.raw (X + sc.lk) = v at *
  have hread : ∀ sc' : Sc, (∀ y, y ∈ sc'.lf ++ sc'.hs ↔ y ∈ sc.hs) → sc'.lk = sc.lk + 1 → (sc'.lk < 2 * k → sc'.sn = v :: sc.sn) → (¬ sc'.lk < 2 * k → ∀ y, y ∈ sc.hs → y ∈ v :: sc.sn → y ∈ sc'.lf) → ∀ r, 1 ≤ r → r < k → RdOk k X (useA s) c rt (.sc sc') r (ph r) (hd r) := fun sc' z1 z2 z3 z4 r h1 h2 => by
    obtain ⟨x1, x2, x3⟩ := h.rd r h1 h2
    refine ⟨x1, x2, fun hh => ?_⟩
    obtain ⟨y1, y2, y3⟩ := x3 hh
    refine ⟨y1, y2, y3.imp id fun ⟨hy, hz⟩ => ?_⟩
    have hy2 : hd r ∈ sc.hs := by
      have : hd r ∈ sc.lf ++ sc.hs := hy
      rw [l1] at this
      exact this
    refine ⟨(z1 _).2 hy2, ?_⟩
    have hin : 2 * r < sc.lk + 1 → hd r ∈ v :: sc.sn := fun hr => by
      rcases hz with hz | ⟨-, -, hz⟩ | ⟨hz, -⟩
      · have e : 2 * r = sc.lk := by omega
        rw [← hv, ← e, y2]
        simp
      · simp [hz]
      · exact absurd hl hz
    by_cases hr : 2 * r < sc.lk + 1
    · by_cases hl2 : sc'.lk < 2 * k
      · exact .inr (.inl ⟨by omega, hl2, by rw [z3 hl2]; exact hin hr⟩)
      · exact .inr (.inr ⟨hl2, z4 hl2 _ hy2 (hin hr)⟩)
    · exact .inl (by omega)
  by_cases hl2 : sc.lk + 1 < 2 * k
  · have e : scLook ⟨X, k, 0⟩ sc v = ⟨sc.lk + 1, v :: sc.sn, sc.hs, sc.lf, sc.fr⟩ := by
      unfold scLook
      rw [if_pos hl2]
    rw [e] at hW2 ⊢
    exact { hh with
      W := ⟨cg, ls, hW2⟩
      few := ⟨f1, f2, fun _ => by show sc.sn.length + 1 = _; rw [hsn], fun hx => absurd hl2 hx⟩
      mem := h.mem
      rd := hread _ (fun y => by rw [l1]; simp) rfl (fun _ => rfl) (fun hx => absurd hl2 hx) }
  · have e : scLook ⟨X, k, 0⟩ sc v = ⟨sc.lk + 1, [], sc.hs.filter (fun h => !inB (v :: sc.sn) h), sc.hs.filter (inB (v :: sc.sn)), none⟩ := by
      unfold scLook
      rw [if_neg hl2]
      unfold scPart
      simp only [l1, List.nil_append]
    have hmm : ∀ y, y ∈ sc.hs.filter (inB (v :: sc.sn)) ++ sc.hs.filter (fun h => !inB (v :: sc.sn) h) ↔ y ∈ sc.hs := fun y => by
      simp only [List.mem_append, List.mem_filter]
      cases inB (v :: sc.sn) y <;> simp
    rw [e] at hW2 ⊢
    refine { hh with
      W := ⟨cg, ls, hW2⟩
      few := ⟨f1, ?_, fun hx => absurd hx hl2, fun _ => ?_⟩
      mem := fun y hy => h.mem y (hy.imp id fun hy => ?_)
      rd := hread _ hmm rfl (fun hx => absurd hx hl2) (fun _ y hy hy2 => List.mem_filter.2 ⟨hy, decide_eq_true hy2⟩) }
    · have := filter_part (inB (v :: sc.sn)) sc.hs
      show (sc.hs.filter (inB (v :: sc.sn))).length + (sc.hs.filter (fun h => !inB (v :: sc.sn) h)).length ≤ 13
      omega
    · have h5 : (sc.hs.filter (inB (v :: sc.sn))).length ≤ (v :: sc.sn).length := sub_len (hnd.filter _) fun y hy => of_decide_eq_true (List.mem_filter.1 hy).2
      show (sc.hs.filter (inB (v :: sc.sn))).length ≤ 12
      simp only [List.length_cons] at h5
      omega
    · show y ∈ sc.lf ++ sc.hs
      rw [l1]
      exact (hmm y).1 hy
/-- a scan's step -/
theorem Kp.scStep (h : Kp k X s c rt (.sc sc) ph hd T) (hk : k ≤ 6) (hT : T ≤ 1000000) (hne : endS ⟨X, k, 0⟩ sc = false) : Kp k X (scF (4 * k) (grs 400) ⟨X, k, 0⟩ s sc).1 c rt (.sc (scF (4 * k) (grs 400) ⟨X, k, 0⟩ s sc).2) ph hd (T + 1) := by
  by_cases hl : sc.lk < 2 * k
  · rw [scF_look (t := ⟨X, k, 0⟩) hl]
    exact (h.look hk hl).wide (Nat.le_succ _)
  · obtain ⟨cg, ls, hW⟩ := h.W
    obtain ⟨f1, f2, f3, f4⟩ := h.few
    have hX := h.hX
    obtain ⟨k1, k2, k3, k4, k5, k6⟩ := hW.same
    have hS : Stl2 k X s (scF (4 * k) (grs 400) ⟨X, k, 0⟩ s sc).1 := ⟨fun j hj => k1 j (by omega), k2, k3, k6 h.fresh, k5, k4⟩
    cases hs : sc.hs with
    | nil =>
      unfold endS at hne
      rw [hs] at hne
      simp [hl] at hne
    | cons y tl =>
      have fin : ∀ sc' : Sc, (scF (4 * k) (grs 400) ⟨X, k, 0⟩ s sc).2 = sc' → sc'.lk = sc.lk → sc'.lf = sc.lf → (∀ z, z ∈ sc'.hs → z ∈ sc.hs) → sc'.hs.length ≤ sc.hs.length → (∃ ls', ScI (4 * k) (grs 400) ⟨X, k, 0⟩ (scF (4 * k) (grs 400) ⟨X, k, 0⟩ s sc).1 cg ls' (cellL c) none (scF (4 * k) (grs 400) ⟨X, k, 0⟩ s sc).2 (T + 1)) → Kp k X (scF (4 * k) (grs 400) ⟨X, k, 0⟩ s sc).1 c rt (.sc (scF (4 * k) (grs 400) ⟨X, k, 0⟩ s sc).2) ph hd (T + 1) := fun sc' z1 z2 z3 z4 z5 ⟨ls', hI⟩ => by
        rw [z1] at hI ⊢
        refine ⟨⟨cg, ls', hI⟩, ⟨f1, by rw [z3]; omega, fun hx => absurd (z2 ▸ hx) hl, fun _ => by rw [z3]; exact f4 hl⟩, (hS.hi _ (by omega)).trans h.cel, fun w hw => ?_, fun r h1 h2 => hS.readers h (fun r' h' _ _ x y => ?_) h1 h2, hS.nw.trans h.nw, hS.nr.trans h.nr, hS.bad.trans h.bad, hS.fresh.trans h.fresh, hX⟩
        · rw [hS.mem]
          refine h.mem w (hw.imp id fun hw => ?_)
          have hw2 : w ∈ sc'.lf ++ sc'.hs := hw
          show w ∈ sc.lf ++ sc.hs
          rw [z3] at hw2
          rcases List.mem_append.1 hw2 with hw2 | hw2
          · exact List.mem_append_left _ hw2
          · exact List.mem_append_right _ (z4 w hw2)
        · have hlf : h' ∈ sc.lf := by
            rcases y with y | ⟨-, y, -⟩ | ⟨-, y⟩
            · omega
            · exact absurd y hl
            · exact y
          exact ⟨by show h' ∈ sc'.lf ++ sc'.hs; rw [z3]; exact List.mem_append_left _ hlf, .inr (.inr ⟨by rw [z2]; exact hl, by rw [z3]; exact hlf⟩)⟩
      rcases hW.free (t := ⟨X, k, 0⟩) hl hs hT with ⟨m', p1, p2, p3, p4, p5⟩ | ⟨p1, p2, p3, p4⟩
      · exact fin _ p3 rfl rfl (fun z hz => hz) (Nat.le_refl _) ⟨ls, p5⟩
      · exact fin _ p2 rfl rfl (fun z hz => by rw [hs]; exact List.mem_cons_of_mem _ hz) (by rw [hs]; exact Nat.le_succ _) ⟨_, p4⟩
end
end Go.Proofs.YtopnkfbcphbbiaaDoor
