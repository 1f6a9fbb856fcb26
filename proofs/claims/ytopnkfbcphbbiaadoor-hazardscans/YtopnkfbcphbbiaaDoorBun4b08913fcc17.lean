/-
  Helpers: S1Sx, S1Sy, S1Sz.
-/
import Derived.Test.YtopnkfbcphbbiaaDoorBun7c921592253b
import Derived.Test.YtopnkfbcphbbiaaDoorBunfb15298dee1a
namespace Go.Proofs.YtopnkfbcphbbiaaDoor.S1
open Go.RowKit
open H8 (okP packV opA opB opC isH sizeF open_pack)
open A9 (Ar useA upN upI upI_same upI_other Ok9 okB bornS retireS diedS bN zN inS zN_bd bN_bd)
open F0 (upH upH_same upH_other upL upL_same upL_other upLs upLs_same upLs_other upO upO_same upO_other RwL headS linkS Ls Pu Po PuOk PoOk Old tagF codF mkF tag_mk cod_mk cod_bd nxt sumN sumN_up sumN_ge sumN_two)

/-- a machine under way: a slot goes back (its name, its list, the push); one is asked for: by a list's pop, n lists more behind it; it looks how many words are carved; it would carve from there on; it has a base, not yet born -/
inductive Mc where
  | free (h : Int) (i : Nat) (m : Pu)
  | pop (c i n : Nat) (m : Po)
  | look (c : Nat)
  | carve (c : Nat) (v : Int)
  | gen (c b : Nat)
def mcC (m : Option Mc) (x : Nat) : Nat := match m with
  | some (.free _ _ m) => if m.b = x then 1 else 0
  | some (.gen _ b) => if b = x then 1 else 0
  | _ => 0
theorem mcC_none (x : Nat) : mcC none x = 0 := rfl
theorem mcC_free (h : Int) (i : Nat) (m : Pu) (x : Nat) : mcC (some (.free h i m)) x = if m.b = x then 1 else 0 := rfl
theorem mcC_pop (c i n : Nat) (m : Po) (x : Nat) : mcC (some (.pop c i n m)) x = 0 := rfl
theorem mcC_look (c x : Nat) : mcC (some (.look c)) x = 0 := rfl
theorem mcC_carve (c : Nat) (v : Int) (x : Nat) : mcC (some (.carve c v)) x = 0 := rfl
theorem mcC_gen (c b x : Nat) : mcC (some (.gen c b)) x = if b = x then 1 else 0 := rfl
def ownC (l : List Int) (x : Nat) : Nat := (l.map grN).count x
theorem ownC_app (l m : List Int) (x : Nat) : ownC (l ++ m) x = ownC l x + ownC m x := by simp [ownC]
theorem ownC_cons (a : Int) (l : List Int) (x : Nat) : ownC (a :: l) x = ownC l x + if grN a = x then 1 else 0 := by simp [ownC, List.count_cons]
theorem ownC_nil (x : Nat) : ownC [] x = 0 := rfl
/-- a name that is not dead is of a slot -/
def HSl (cl : Nat → Option Nat) (h : Int) : Prop := bN h = 8 * grN h ∧ cl (grN h) = some (clN h)
def McOk (K M : Nat) (s : Ar) (hd lk : Nat → Int) (cl : Nat → Option Nat) : Mc → Prop
  | .free h i m => i < K ∧ i % 4 = clN h ∧ m.b = grN h ∧ s.st h = 2 ∧ PuOk M (hd i) lk m
  | .pop c i _ m => i < K ∧ i % 4 = c ∧ PoOk M (hd i) lk m
  | .look c => c < 4
  | .carve c v => c < 4 ∧ v + 8 * (zg c : Int) ≤ s.nw
  | .gen c b => cl b = some c
structure SxI (K M k : Nat) (s : Ar) (hd lk gn : Nat → Int) (cg : Nat) (cl : Nat → Option Nat) (ls : Nat → List Nat) (own : Nat → List Int) (mc : Nat → Option Mc) (T : Nat) : Prop where
  rw : RwS K M s hd lk gn (8 * (cg : Int))
  cap : 8 * cg ≤ s.nw
  grs : s.nw ≤ 8 * M
  M8 : M ≤ 8192
  K4 : K % 4 = 0
  L : ∀ i, i < K → Ls M (hd i) lk (ls i)
  tg : ∀ i, i < K → tagF (hd i) ≤ T
  cls : ∀ i, i < K → ∀ b ∈ ls i, cl b = some (i % 4)
  slot : ∀ b c, cl b = some c → c < 4 ∧ b + zg c ≤ cg
  apart : ∀ a b c d, cl a = some c → cl b = some d → a < b → a + zg c ≤ b
  gn0 : ∀ b, b < M → 0 ≤ gn b ∧ gn b ≤ T ∧ s.gen (8 * (b : Int)) = gn b
  P : ∀ w, w < k → ∀ m, mc w = some m → McOk K M s hd lk cl m
  live : ∀ w, w < k → ∀ h ∈ own w, s.st h = 1
  seen : ∀ h, s.st h ≠ 0 → HSl cl h ∧ ((∃ w, w < k ∧ h ∈ own w) ∨ ∃ w i m, w < k ∧ mc w = some (.free h i m))
  C : ∀ x, sumN (fun i => (ls i).count x) K + sumN (fun w => ownC (own w) x + mcC (mc w) x) k = if (cl x).isSome then 1 else 0
section
variable {K M k T w : Nat} {s : Ar} {hd lk gn : Nat → Int} {cg : Nat} {cl : Nat → Option Nat} {ls : Nat → List Nat} {own : Nat → List Int} {mc : Nat → Option Mc}
theorem SxI.le_one (h : SxI K M k s hd lk gn cg cl ls own mc T) (x : Nat) : sumN (fun i => (ls i).count x) K + sumN (fun w => ownC (own w) x + mcC (mc w) x) k ≤ 1 := by
  rw [h.C x]
  split <;> omega
/-- what one actor has is nobody else's -/
theorem SxI.mine (h : SxI K M k s hd lk gn cg cl ls own mc T) {w x : Nat} (hw : w < k) (hx : 1 ≤ ownC (own w) x + mcC (mc w) x) :
    (∀ i, i < K → x ∉ ls i) ∧ ownC (own w) x + mcC (mc w) x = 1 ∧ (∀ v, v < k → v ≠ w → ownC (own v) x = 0 ∧ mcC (mc v) x = 0) ∧ (cl x).isSome := by
  have h1 := h.le_one x
  have h2 : ownC (own w) x + mcC (mc w) x ≤ sumN (fun w => ownC (own w) x + mcC (mc w) x) k := sumN_ge (f := fun w => ownC (own w) x + mcC (mc w) x) hw
  refine ⟨fun i hi hm => ?_, by omega, fun v hv hne => ?_, ?_⟩
  · have h3 := List.count_pos_iff.2 hm
    have h4 : (ls i).count x ≤ sumN (fun i => (ls i).count x) K := sumN_ge (f := fun i => (ls i).count x) hi
    omega
  · have h3 : (ownC (own v) x + mcC (mc v) x) + (ownC (own w) x + mcC (mc w) x) ≤ sumN (fun w => ownC (own w) x + mcC (mc w) x) k := sumN_two (f := fun w => ownC (own w) x + mcC (mc w) x) hne hv hw
    omega
  · have h3 := h.C x
    split at h3
    · assumption
    · omega
theorem ownC_pos {l : List Int} {h : Int} (hm : h ∈ l) : 1 ≤ ownC l (grN h) := List.count_pos_iff.2 (List.mem_map_of_mem hm)
/-- a list's is nobody's -/
theorem SxI.listed (h : SxI K M k s hd lk gn cg cl ls own mc T) {i x : Nat} (hi : i < K) (hx : x ∈ ls i) :
    (∀ v, v < k → ownC (own v) x = 0 ∧ mcC (mc v) x = 0) ∧ (∀ j, j < K → j ≠ i → x ∉ ls j) := by
  have h1 := h.le_one x
  have h2 := List.count_pos_iff.2 hx
  have h3 : (ls i).count x ≤ sumN (fun i => (ls i).count x) K := sumN_ge (f := fun i => (ls i).count x) hi
  refine ⟨fun v hv => ?_, fun j hj hne hm => ?_⟩
  · have h4 : ownC (own v) x + mcC (mc v) x ≤ sumN (fun w => ownC (own w) x + mcC (mc w) x) k := sumN_ge (f := fun w => ownC (own w) x + mcC (mc w) x) hv
    omega
  · have h4 := List.count_pos_iff.2 hm
    have h5 : (ls j).count x + (ls i).count x ≤ sumN (fun i => (ls i).count x) K := sumN_two (f := fun i => (ls i).count x) hne hj hi
    omega
/-- the counts, where one actor turns -/
theorem SxI.countA (_h : SxI K M k s hd lk gn cg cl ls own mc T) (hw : w < k) {own' : Nat → List Int} {mc' : Nat → Option Mc} (h1 : ∀ v, v ≠ w → own' v = own v ∧ mc' v = mc v) (x : Nat) :
    sumN (fun w => ownC (own' w) x + mcC (mc' w) x) k + (ownC (own w) x + mcC (mc w) x) = sumN (fun w => ownC (own w) x + mcC (mc w) x) k + (ownC (own' w) x + mcC (mc' w) x) :=
  (sumN_up (f := fun w => ownC (own w) x + mcC (mc w) x) (g := fun w => ownC (own' w) x + mcC (mc' w) x) (w := w) (fun i hi => by simp only [(h1 i hi).1, (h1 i hi).2]) k).1 hw
theorem SxI.countL (_h : SxI K M k s hd lk gn cg cl ls own mc T) {i : Nat} (hi : i < K) (l : List Nat) (x : Nat) :
    sumN (fun j => (upLs ls i l j).count x) K + (ls i).count x = sumN (fun j => (ls j).count x) K + l.count x := by
  have := (sumN_up (f := fun j => (ls j).count x) (g := fun j => (upLs ls i l j).count x) (w := i) (fun j hj => by simp only [upLs_other _ _ hj]) K).1 hi
  simp only [upLs_same] at this
  exact this
theorem SxI.wide (h : SxI K M k s hd lk gn cg cl ls own mc T) {T' : Nat} (hT : T ≤ T') : SxI K M k s hd lk gn cg cl ls own mc T' :=
  ⟨h.rw, h.cap, h.grs, h.M8, h.K4, h.L, fun i hi => by have := h.tg i hi; omega, h.cls, h.slot, h.apart, fun b hb => by have := h.gn0 b hb; exact ⟨this.1, by omega, this.2.2⟩, h.P, h.live, h.seen, h.C⟩
/-- another arena that is alike in what matters -/
theorem SxI.same {s' : Ar} (h : SxI K M k s hd lk gn cg cl ls own mc T) (e1 : s'.raw = s.raw) (e2 : s'.nr = s.nr) (e3 : s'.nw = s.nw) (e4 : s'.st = s.st) (e5 : s'.gen = s.gen) : SxI K M k s' hd lk gn cg cl ls own mc T :=
  ⟨h.rw.same e1 e2, by rw [e3]; exact h.cap, by rw [e3]; exact h.grs, h.M8, h.K4, h.L, h.tg, h.cls, h.slot, h.apart, by rw [e5]; exact h.gn0, fun w hw m hm => by
    have := h.P w hw m hm
    cases m <;> simpa only [McOk, e3, e4] using this, by rw [e4]; exact h.live, by rw [e4]; exact h.seen, h.C⟩
theorem SxI.use (h : SxI K M k s hd lk gn cg cl ls own mc T) : SxI K M k (useA s) hd lk gn cg cl ls own mc T := h.same rfl rfl rfl rfl rfl
def isFree (m : Option Mc) (h : Int) : Prop := ∃ i n, m = some (.free h i n)
/-- one machine turns: its count stays, and it is right; a slot that goes back still does -/
theorem SxI.turn (h : SxI K M k s hd lk gn cg cl ls own mc T) (hw : w < k) {m' : Option Mc} (hc : ∀ x, mcC m' x = mcC (mc w) x) (hok : ∀ m, m' = some m → McOk K M s hd lk cl m) (hf : ∀ a, isFree (mc w) a → isFree m' a) : SxI K M k s hd lk gn cg cl ls own (upO mc w m') T := by
  refine ⟨h.rw, h.cap, h.grs, h.M8, h.K4, h.L, h.tg, h.cls, h.slot, h.apart, h.gn0, fun v hv m hm => ?_, h.live, fun a ha => ?_, fun x => ?_⟩
  · by_cases e : v = w
    · subst e
      rw [upO_same] at hm
      exact hok m hm
    · rw [upO_other _ _ e] at hm
      exact h.P v hv m hm
  · obtain ⟨h1, h2⟩ := h.seen a ha
    refine ⟨h1, h2.imp_right ?_⟩
    rintro ⟨v, i, m, hv, hm⟩
    by_cases e : v = w
    · subst e
      obtain ⟨i', m', hm'⟩ := hf a ⟨i, m, hm⟩
      exact ⟨v, i', m', hv, by rw [upO_same]; exact hm'⟩
    · exact ⟨v, i, m, hv, by rw [upO_other _ _ e]; exact hm⟩
  · have h1 := h.countA hw (own' := own) (mc' := upO mc w m') (fun v hv => ⟨rfl, upO_other _ _ hv⟩) x
    have h2 := h.C x
    have h3 := hc x
    rw [upO_same] at h1
    omega
theorem SxI.Mlt (h : SxI K M k s hd lk gn cg cl ls own mc T) {b c : Nat} (hb : cl b = some c) : b < M := by
  obtain ⟨h1, h2⟩ := h.slot b c hb
  have h3 := zg_bd h1
  have := h.cap
  have := h.grs
  omega
theorem SxI.some_lt (h : SxI K M k s hd lk gn cg cl ls own mc T) {b : Nat} (hb : (cl b).isSome) : b < M := by
  obtain ⟨c, hc⟩ := Option.isSome_iff_exists.1 hb
  exact h.Mlt hc
/-- a machine's slot, of a free one -/
theorem SxI.freeCl (h : SxI K M k s hd lk gn cg cl ls own mc T) (hw : w < k) {a : Int} {i : Nat} {m : Pu} (hm : mc w = some (.free a i m)) : cl m.b = some (i % 4) ∧ bN a = 8 * m.b := by
  obtain ⟨h1, h2, h3, h4, h5⟩ := h.P w hw _ hm
  obtain ⟨⟨x1, x2⟩, -⟩ := h.seen a (by rw [h4]; decide)
  rw [h3, h2]
  exact ⟨x2, x1⟩
/-- a push sets its link -/
theorem SxI.link (h : SxI K M k s hd lk gn cg cl ls own mc T) (hw : w < k) {a : Int} {i : Nat} {m : Pu} (hm : mc w = some (.free a i m)) (hp : m.ph = 1) :
    SxI K M k (linkS K s m.b (codF m.h)) hd (upL lk m.b (codF m.h)) gn cg cl ls own (upO mc w (some (.free a i ⟨m.b, 2, m.h⟩))) T := by
  obtain ⟨hi, h2, h3, h4, h5⟩ := h.P w hw _ hm
  have hme := h.mine hw (x := m.b) (by rw [hm]; simp [mcC_free])
  have hb : m.b < M := h5.1
  have hcd := (h5.2.1 (.inl hp)).2
  refine ⟨h.rw.link hb _, h.cap, h.grs, h.M8, h.K4, fun j hj => (h.L j hj).link (hme.1 j hj) ⟨(cod_bd m.h).1, hcd⟩, h.tg, h.cls, h.slot, h.apart, h.gn0, fun v hv n hn => ?_, h.live, fun x hx => ?_, fun x => ?_⟩
  · by_cases e : v = w
    · subst e
      rw [upO_same] at hn
      cases hn
      exact ⟨hi, h2, h3, h4, hb, fun _ => h5.2.1 (.inl hp), fun _ => upL_same _ _ _, Nat.le_refl _⟩
    · rw [upO_other _ _ e] at hn
      have hz := (hme.2.2.1 v hv e).2
      rw [hn] at hz
      have hk := h.P v hv n hn
      cases n with
      | free a' i' m' =>
        have hne : m'.b ≠ m.b := fun e2 => by simp [mcC_free, e2] at hz
        exact ⟨hk.1, hk.2.1, hk.2.2.1, hk.2.2.2.1, hk.2.2.2.2.link hne _⟩
      | pop c' i' n' m' => exact ⟨hk.1, hk.2.1, hk.2.2.link (h.L i' hk.1) (hme.1 i' hk.1) _⟩
      | look c' => exact hk
      | carve c' v' => exact hk
      | gen c' b' => exact hk
  · obtain ⟨h1, h2⟩ := h.seen x hx
    refine ⟨h1, h2.imp_right ?_⟩
    rintro ⟨v, i', m', hv, hm'⟩
    by_cases e : v = w
    · subst e
      rw [hm] at hm'
      cases hm'
      exact ⟨v, i, _, hv, upO_same _ _ _⟩
    · exact ⟨v, i', m', hv, by rw [upO_other _ _ e]; exact hm'⟩
  · have h1 := h.countA hw (own' := own) (mc' := upO mc w (some (.free a i ⟨m.b, 2, m.h⟩))) (fun v hv => ⟨rfl, upO_other _ _ hv⟩) x
    have h2 := h.C x
    rw [upO_same, hm] at h1
    simp only [mcC_free] at h1
    omega
/-- a swap of a head that went: the others' memories are elder -/
theorem McOk.past {n : Mc} {i : Nat} {c : Int} (h : McOk K M s hd lk cl n) (h0 : 0 ≤ c) (h1 : c < 131072) : McOk K M s (upH hd i (mkF (tagF (hd i) + 1) c)) lk cl n := by
  cases n with
  | free a' i' m' =>
    refine ⟨h.1, h.2.1, h.2.2.1, h.2.2.2.1, ?_⟩
    by_cases e : i' = i
    · subst e
      rw [upH_same]
      exact h.2.2.2.2.past h0 h1
    · rw [upH_other _ _ e]
      exact h.2.2.2.2
  | pop c' i' n' m' =>
    refine ⟨h.1, h.2.1, ?_⟩
    by_cases e : i' = i
    · subst e
      rw [upH_same]
      exact h.2.2.past h0 h1
    · rw [upH_other _ _ e]
      exact h.2.2
  | look c' => exact h
  | carve c' v' => exact h
  | gen c' b' => exact h
theorem McOk.arena {s' : Ar} {n : Mc} (h : McOk K M s hd lk cl n) (e1 : s'.nw = s.nw) (e2 : ∀ a, s.st a = 2 → isFree (some n) a → s'.st a = 2) : McOk K M s' hd lk cl n := by
  cases n with
  | free a' i' m' => exact ⟨h.1, h.2.1, h.2.2.1, e2 _ h.2.2.2.1 ⟨_, _, rfl⟩, h.2.2.2.2⟩
  | pop c' i' n' m' => exact h
  | look c' => exact h
  | carve c' v' => exact ⟨h.1, by rw [e1]; exact h.2⟩
  | gen c' b' => exact h
/-- two names of one slot that are not dead are one -/
theorem grN_one (hO : Ok9 s) (h : SxI K M k s hd lk gn cg cl ls own mc T) {a b : Int} (ha : s.st a ≠ 0) (hb : s.st b ≠ 0) (e : grN a = grN b) : a = b := by
  obtain ⟨⟨x1, -⟩, -⟩ := h.seen a ha
  obtain ⟨⟨y1, -⟩, -⟩ := h.seen b hb
  have z1 := zN_bd a
  have z2 := zN_bd b
  exact hO.two a b (bN a) ha hb ⟨Nat.le_refl _, by omega⟩ ⟨by omega, by omega⟩
/-- a push's swap goes: the slot is dead, and its list's first -/
theorem SxI.pushGo (h : SxI K M k s hd lk gn cg cl ls own mc T) (hw : w < k) {a : Int} {i : Nat} {m : Pu} (hm : mc w = some (.free a i m)) (hp : m.ph = 2) (he : m.h = hd i) :
    SxI K M k (diedS (headS s i (mkF (tagF (hd i) + 1) ((m.b : Int) + 1))) a) (upH hd i (mkF (tagF (hd i) + 1) ((m.b : Int) + 1))) lk gn cg cl (upLs ls i (m.b :: ls i)) own (upO mc w none) (T + 1) := by
  obtain ⟨hi, h2, h3, h4, h5⟩ := h.P w hw _ hm
  obtain ⟨hcl, -⟩ := h.freeCl hw hm
  have hme := h.mine hw (x := m.b) (by rw [hm]; simp [mcC_free])
  have hb : m.b < M := h5.1
  have hM := h.M8
  have hnt : ∀ v, v < k → ∀ x ∈ own v, x ≠ a := fun v hv x hx e => by
    have := h.live v hv x hx
    rw [e, h4] at this
    exact absurd this (by decide)
  have hst : ∀ x, (diedS (headS s i (mkF (tagF (hd i) + 1) ((m.b : Int) + 1))) a).st x = upI s.st a 0 x := fun _ => rfl
  have hfr : ∀ v, v < k → v ≠ w → ∀ x, isFree (mc v) x → x ≠ a := fun v hv hne x hx e => by
    obtain ⟨i', m', hm'⟩ := hx
    have hz := (hme.2.2.1 v hv hne).2
    have hk := h.P v hv _ hm'
    rw [hm'] at hz
    have : m'.b = m.b := by rw [hk.2.2.1, h3, e]
    simp [mcC_free, this] at hz
  refine ⟨((h.rw.head hi _).same (s' := diedS (headS s i (mkF (tagF (hd i) + 1) ((m.b : Int) + 1))) a) rfl rfl), h.cap, h.grs, h.M8, h.K4, fun j hj => ?_, fun j hj => ?_, fun j hj b hbm => ?_, h.slot, h.apart, fun b hb => by have := h.gn0 b hb; exact ⟨this.1, by omega, this.2.2⟩, fun v hv n hn => ?_, fun v hv x hx => ?_, fun x hx => ?_, fun x => ?_⟩
  · by_cases e : j = i
    · subst e
      rw [upH_same, upLs_same]
      exact (h.L j hj).push (by omega) h5 hp he (hme.1 j hj)
    · rw [upH_other _ _ e, upLs_other _ _ e]
      exact h.L j hj
  · by_cases e : j = i
    · subst e
      rw [upH_same, tag_mk (by omega) (by omega)]
      have := h.tg j hj
      omega
    · rw [upH_other _ _ e]
      have := h.tg j hj
      omega
  · by_cases e : j = i
    · subst e
      rw [upLs_same] at hbm
      rcases List.mem_cons.1 hbm with rfl | h6
      · exact hcl
      · exact h.cls j hj b h6
    · rw [upLs_other _ _ e] at hbm
      exact h.cls j hj b hbm
  · by_cases e : v = w
    · subst e
      rw [upO_same] at hn
      cases hn
    · rw [upO_other _ _ e] at hn
      exact ((h.P v hv n hn).past (by omega) (by omega)).arena rfl fun x hx hf => by
        rw [hst, upI_other _ _ (hfr v hv e x (by rw [hn]; exact hf))]
        exact hx
  · rw [hst, upI_other _ _ (hnt v hv x hx)]
    exact h.live v hv x hx
  · rw [hst] at hx
    have hxa : x ≠ a := fun e => by rw [e, upI_same] at hx; exact hx rfl
    rw [upI_other _ _ hxa] at hx
    obtain ⟨y1, y2⟩ := h.seen x hx
    refine ⟨y1, y2.imp_right ?_⟩
    rintro ⟨v, i', m', hv, hm'⟩
    have e : v ≠ w := fun e => by
      subst e
      rw [hm] at hm'
      cases hm'
      exact hxa rfl
    exact ⟨v, i', m', hv, by rw [upO_other _ _ e]; exact hm'⟩
  · have h1 := h.countA hw (own' := own) (mc' := upO mc w none) (fun v hv => ⟨rfl, upO_other _ _ hv⟩) x
    have h6 := h.countL hi (m.b :: ls i) x
    have h7 := h.C x
    rw [upO_same, hm] at h1
    simp only [mcC_none, mcC_free] at h1
    rw [List.count_cons] at h6
    simp only [beq_iff_eq] at h6
    omega
/-- a pop's swap goes: the first of its list is this actor's, not yet born -/
theorem SxI.popGo (h : SxI K M k s hd lk gn cg cl ls own mc T) (hw : w < k) {c i n : Nat} {m : Po} (hm : mc w = some (.pop c i n m)) (hp : m.ph = 2) (he : m.h = hd i) :
    ∃ b r, ls i = b :: r ∧ codF m.h = (b : Int) + 1 ∧ SxI K M k (headS s i (mkF (tagF (hd i) + 1) m.nx)) (upH hd i (mkF (tagF (hd i) + 1) m.nx)) lk gn cg cl (upLs ls i r) own (upO mc w (some (.gen c b))) (T + 1) := by
  obtain ⟨hi, h2, h5⟩ := h.P w hw _ hm
  have hM := h.M8
  obtain ⟨b, r, hl, hcb, hL⟩ := (h.L i hi).pop (by omega) h5 hp he
  have hn := (h5.2.1 hp).2
  have hbl : b ∈ ls i := by rw [hl]; simp
  have hbc := h.cls i hi b hbl
  have hls := h.listed hi hbl
  refine ⟨b, r, hl, hcb, h.rw.head hi _, h.cap, h.grs, h.M8, h.K4, fun j hj => ?_, fun j hj => ?_, fun j hj x hx => ?_, h.slot, h.apart, fun b hb => by have := h.gn0 b hb; exact ⟨this.1, by omega, this.2.2⟩, fun v hv n hn2 => ?_, h.live, fun x hx => ?_, fun x => ?_⟩
  · by_cases e : j = i
    · subst e
      rw [upH_same, upLs_same]
      exact hL
    · rw [upH_other _ _ e, upLs_other _ _ e]
      exact h.L j hj
  · by_cases e : j = i
    · subst e
      rw [upH_same, tag_mk (by omega) (by omega)]
      have := h.tg j hj
      omega
    · rw [upH_other _ _ e]
      have := h.tg j hj
      omega
  · by_cases e : j = i
    · subst e
      rw [upLs_same] at hx
      exact h.cls j hj x (by rw [hl]; exact List.mem_cons_of_mem _ hx)
    · rw [upLs_other _ _ e] at hx
      exact h.cls j hj x hx
  · by_cases e : v = w
    · subst e
      rw [upO_same] at hn2
      cases hn2
      show cl b = some c
      rw [hbc, h2]
    · rw [upO_other _ _ e] at hn2
      exact ((h.P v hv n hn2).past (by omega) (by omega)).arena rfl fun x hx _ => hx
  · obtain ⟨y1, y2⟩ := h.seen x hx
    refine ⟨y1, y2.imp_right ?_⟩
    rintro ⟨v, i', m', hv, hm'⟩
    have e : v ≠ w := fun e => by
      subst e
      rw [hm] at hm'
      cases hm'
    exact ⟨v, i', m', hv, by rw [upO_other _ _ e]; exact hm'⟩
  · have h1 := h.countA hw (own' := own) (mc' := upO mc w (some (.gen c b))) (fun v hv => ⟨rfl, upO_other _ _ hv⟩) x
    have h6 := h.countL hi r x
    have h7 := h.C x
    rw [upO_same, hm] at h1
    simp only [mcC_pop, mcC_gen] at h1
    rw [hl, List.count_cons] at h6
    simp only [beq_iff_eq] at h6
    omega
/-- a slot is carved -/
def upC (cl : Nat → Option Nat) (b c : Nat) : Nat → Option Nat := fun j => if j = b then some c else cl j
theorem upC_same (cl : Nat → Option Nat) (b c : Nat) : upC cl b c b = some c := if_pos rfl
theorem upC_other (cl : Nat → Option Nat) {b j : Nat} (c : Nat) (h : j ≠ b) : upC cl b c j = cl j := if_neg h
theorem SxI.carveGo (h : SxI K M k s hd lk gn cg cl ls own mc T) (hw : w < k) {c : Nat} {v : Int} (hm : mc w = some (.carve c v)) (he : v = 8 * (cg : Int)) :
    SxI K M k (headS s (K + M + M) (8 * ((cg + zg c : Nat) : Int))) hd lk gn (cg + zg c) (upC cl cg c) ls own (upO mc w (some (.gen c cg))) T := by
  obtain ⟨hc4, hroom⟩ := h.P w hw _ hm
  have hz := zg_bd hc4
  have hno : cl cg = none := by
    cases e : cl cg with
    | none => rfl
    | some d =>
      obtain ⟨e1, e2⟩ := h.slot cg d e
      have := zg_bd e1
      omega
  have hup : ∀ b d, cl b = some d → upC cl cg c b = some d := fun b d hb => by
    rw [upC_other _ _ (fun e => by rw [e, hno] at hb; cases hb)]
    exact hb
  refine ⟨h.rw.carve _, by show 8 * (cg + zg c) ≤ s.nw; omega, h.grs, h.M8, h.K4, h.L, h.tg, fun i hi b hb => hup _ _ (h.cls i hi b hb), fun b d hb => ?_, fun a b d e ha hb hab => ?_, h.gn0, fun x hx n hn => ?_, h.live, fun x hx => ?_, fun x => ?_⟩
  · by_cases e : b = cg
    · subst e
      rw [upC_same] at hb
      cases hb
      exact ⟨hc4, Nat.le_refl _⟩
    · rw [upC_other _ _ e] at hb
      have := h.slot b d hb
      exact ⟨this.1, by omega⟩
  · by_cases e1 : a = cg
    · subst e1
      by_cases e2 : b = a
      · omega
      · rw [upC_other _ _ e2] at hb
        have := h.slot b e hb
        have := zg_bd this.1
        omega
    · rw [upC_other _ _ e1] at ha
      by_cases e2 : b = cg
      · subst e2
        exact (h.slot a d ha).2
      · rw [upC_other _ _ e2] at hb
        exact h.apart a b d e ha hb hab
  · by_cases e : x = w
    · subst e
      rw [upO_same] at hn
      cases hn
      exact upC_same _ _ _
    · rw [upO_other _ _ e] at hn
      have hk := h.P x hx n hn
      cases n with
      | free a' i' m' => exact hk
      | pop c' i' n' m' => exact hk
      | look c' => exact hk
      | carve c' v' => exact hk
      | gen c' b' => exact hup _ _ hk
  · obtain ⟨⟨y0, y1⟩, y2⟩ := h.seen x hx
    refine ⟨⟨y0, hup _ _ y1⟩, y2.imp_right ?_⟩
    rintro ⟨v', i', m', hv, hm'⟩
    have e : v' ≠ w := fun e => by
      subst e
      rw [hm] at hm'
      cases hm'
    exact ⟨v', i', m', hv, by rw [upO_other _ _ e]; exact hm'⟩
  · have h1 := h.countA hw (own' := own) (mc' := upO mc w (some (.gen c cg))) (fun v hv => ⟨rfl, upO_other _ _ hv⟩) x
    have h7 := h.C x
    rw [upO_same, hm] at h1
    simp only [mcC_carve, mcC_gen] at h1
    by_cases e : x = cg
    · subst e
      rw [upC_same]
      rw [hno] at h7
      simp at h7
      simp at h1
      simp
      omega
    · rw [upC_other _ _ e]
      rw [if_neg (fun e2 => e e2.symm)] at h1
      omega
/-- a slot that is nobody's may be born, by the next gen -/
theorem SxI.mayB (h : SxI K M k s hd lk gn cg cl ls own mc T) (hO : Ok9 s) (hT : T ≤ 1000000) (hw : w < k) {c b : Nat} (hm : mc w = some (.gen c b)) : okB s (nmV b (gn b + 1) c) ∧ okP (8 * (b : Int)) (gn b + 1) c ∧ s.gen (8 * (b : Int)) = gn b := by
  have hbc : cl b = some c := h.P w hw _ hm
  obtain ⟨hc4, hfit⟩ := h.slot b c hbc
  have hb := h.Mlt hbc
  have hM := h.M8
  obtain ⟨g0, g1, g2⟩ := h.gn0 b hb
  have hme := h.mine hw (x := b) (by rw [hm]; simp [mcC_gen])
  have ho : okP (8 * (b : Int)) (gn b + 1) c := nm_ok (by omega) (by omega) (by omega) hc4
  have hz : zN (nmV b (gn b + 1) c) = 8 * zg c := by rw [zN_zg, nm_cl ho]
  refine ⟨⟨nm_is ho, ?_, ?_, fun p hp => ?_⟩, ho, g2⟩
  · rw [nm_b ho, hz]
    have := h.cap
    omega
  · rw [nm_b ho, nm_g ho, show ((8 * b : Nat) : Int) = 8 * (b : Int) by omega, g2]
    omega
  · cases ht : s.tak p with
    | false => rfl
    | true =>
      exfalso
      obtain ⟨a, ha, hap⟩ := hO.free p ht
      obtain ⟨⟨x1, x2⟩, x3⟩ := h.seen a ha
      unfold inS at hp hap
      rw [nm_b ho, hz] at hp
      rw [x1, zN_zg] at hap
      have hgr : grN a = b := by
        rcases Nat.lt_trichotomy (grN a) b with hl | he | hl
        · have := h.apart _ _ _ _ x2 hbc hl
          omega
        · exact he
        · have := h.apart _ _ _ _ hbc x2 hl
          omega
      rcases x3 with ⟨v, hv, hav⟩ | ⟨v, i, m, hv, hmv⟩
      · have h1 := ownC_pos hav
        rw [hgr] at h1
        by_cases e : v = w
        · subst e
          have := hme.2.1
          rw [hm] at this
          simp [mcC_gen] at this
          omega
        · have := (hme.2.2.1 v hv e).1
          omega
      · have hk := h.P v hv _ hmv
        have h1 : mcC (mc v) b = 1 := by rw [hmv]; simp [mcC_free, hk.2.2.1, hgr]
        by_cases e : v = w
        · subst e
          rw [hm] at hmv
          cases hmv
        · have := (hme.2.2.1 v hv e).2
          omega
/-- it is born, and this actor's -/
theorem SxI.born (h : SxI K M k s hd lk gn cg cl ls own mc T) (hO : Ok9 s) (hT : T ≤ 1000000) (hw : w < k) {c b : Nat} (hm : mc w = some (.gen c b)) :
    SxI K M k (bornS (genS K M s b (gn b + 1)) (nmV b (gn b + 1) c)) hd lk (upH gn b (gn b + 1)) cg cl ls (upO own w (own w ++ [nmV b (gn b + 1) c])) (upO mc w none) (T + 1) := by
  obtain ⟨hB, ho, hg⟩ := h.mayB hO hT hw hm
  have hbc : cl b = some c := h.P w hw _ hm
  have hb := h.Mlt hbc
  have hst : ∀ x, (bornS (genS K M s b (gn b + 1)) (nmV b (gn b + 1) c)).st x = upI s.st (nmV b (gn b + 1) c) 1 x := fun _ => rfl
  have hnew : s.st (nmV b (gn b + 1) c) = 0 := by
    cases e : decide (s.st (nmV b (gn b + 1) c) = 0) with
    | true => simpa using e
    | false =>
      exfalso
      have hs : s.st (nmV b (gn b + 1) c) ≠ 0 := by simpa using e
      have h1 := hO.gen _ hs
      have h2 := hB.2.2.1
      omega
  refine ⟨(h.rw.gen hb _).same (s' := bornS (genS K M s b (gn b + 1)) (nmV b (gn b + 1) c)) rfl rfl, h.cap, h.grs, h.M8, h.K4, h.L, fun i hi => by have := h.tg i hi; omega, h.cls, h.slot, h.apart, fun x hx => ?_, fun v hv n hn => ?_, fun v hv x hx => ?_, fun x hx => ?_, fun x => ?_⟩
  · obtain ⟨g0, g1, g2⟩ := h.gn0 x hx
    have e3 : (bornS (genS K M s b (gn b + 1)) (nmV b (gn b + 1) c)).gen = upI s.gen ((bN (nmV b (gn b + 1) c) : Nat) : Int) (opB (nmV b (gn b + 1) c)) := rfl
    rw [e3, nm_b ho, nm_g ho]
    by_cases e : x = b
    · subst e
      rw [upH_same, show ((8 * x : Nat) : Int) = 8 * (x : Int) by omega, upI_same]
      exact ⟨by omega, by omega, rfl⟩
    · rw [upH_other _ _ e, upI_other _ _ (by omega)]
      exact ⟨g0, by omega, g2⟩
  · by_cases e : v = w
    · subst e
      rw [upO_same] at hn
      cases hn
    · rw [upO_other _ _ e] at hn
      refine (h.P v hv n hn).arena rfl fun x hx _ => ?_
      rw [hst, upI_other _ _ (fun e2 => by rw [e2, hnew] at hx; exact absurd hx (by decide))]
      exact hx
  · rw [hst]
    by_cases e : v = w
    · subst e
      rw [upO_same] at hx
      rcases List.mem_append.1 hx with h1 | h1
      · have := h.live v hv x h1
        rw [upI_other _ _ (fun e2 => by rw [e2, hnew] at this; exact absurd this (by decide))]
        exact this
      · rw [List.mem_singleton] at h1
        rw [h1, upI_same]
    · rw [upO_other _ _ e] at hx
      have := h.live v hv x hx
      rw [upI_other _ _ (fun e2 => by rw [e2, hnew] at this; exact absurd this (by decide))]
      exact this
  · rw [hst] at hx
    by_cases e : x = nmV b (gn b + 1) c
    · subst e
      refine ⟨⟨?_, ?_⟩, .inl ⟨w, hw, by rw [upO_same]; simp⟩⟩
      · rw [nm_b ho, nm_gr ho]
      · rw [nm_gr ho, nm_cl ho]
        exact hbc
    · rw [upI_other _ _ e] at hx
      obtain ⟨y1, y2⟩ := h.seen x hx
      refine ⟨y1, ?_⟩
      rcases y2 with ⟨v, hv, hxv⟩ | ⟨v, i', m', hv, hm'⟩
      · refine .inl ⟨v, hv, ?_⟩
        by_cases e2 : v = w
        · subst e2
          rw [upO_same]
          exact List.mem_append_left _ hxv
        · rw [upO_other _ _ e2]
          exact hxv
      · have e2 : v ≠ w := fun e2 => by
          subst e2
          rw [hm] at hm'
          cases hm'
        exact .inr ⟨v, i', m', hv, by rw [upO_other _ _ e2]; exact hm'⟩
  · have h1 := h.countA hw (own' := upO own w (own w ++ [nmV b (gn b + 1) c])) (mc' := upO mc w none) (fun v hv => ⟨upO_other _ _ hv, upO_other _ _ hv⟩) x
    have h7 := h.C x
    rw [upO_same, upO_same, hm] at h1
    simp only [mcC_none, mcC_gen, ownC_app, ownC_cons, ownC_nil, nm_gr ho] at h1
    omega
/-- one that is this actor's is retired, and goes back -/
theorem SxI.retire (h : SxI K M k s hd lk gn cg cl ls own mc T) (hw : w < k) {l1 l2 : List Int} {a : Int} (ho : own w = l1 ++ a :: l2) (hm : mc w = none) {i : Nat} (hi : i < K) (hic : i % 4 = clN a) :
    SxI K M k (retireS s a) hd lk gn cg cl ls (upO own w (l1 ++ l2)) (upO mc w (some (.free a i ⟨grN a, 0, 0⟩))) T := by
  have haw : a ∈ own w := by rw [ho]; simp
  have hst : ∀ x, (retireS s a).st x = upI s.st a 2 x := fun _ => rfl
  have hl := h.live w hw a haw
  have hme := h.mine hw (x := grN a) (by have := ownC_pos haw; omega)
  have hone : ∀ v, v < k → ∀ x ∈ upO own w (l1 ++ l2) v, x ≠ a := fun v hv x hx e => by
    subst e
    have h1 := ownC_pos hx
    by_cases e : v = w
    · subst e
      rw [upO_same] at h1
      have h2 := hme.2.1
      rw [ho, hm] at h2
      simp only [mcC_none, ownC_app, ownC_cons, if_true] at h1 h2
      omega
    · rw [upO_other _ _ e] at h1
      have := (hme.2.2.1 v hv e).1
      omega
  have hsub : ∀ x, x ∈ l1 ++ l2 → x ∈ own w := fun x hx => by
    rw [ho]
    rcases List.mem_append.1 hx with h1 | h1
    · exact List.mem_append_left _ h1
    · exact List.mem_append_right _ (List.mem_cons_of_mem _ h1)
  refine ⟨h.rw.same (s' := retireS s a) rfl rfl, h.cap, h.grs, h.M8, h.K4, h.L, h.tg, h.cls, h.slot, h.apart, h.gn0, fun v hv n hn => ?_, fun v hv x hx => ?_, fun x hx => ?_, fun x => ?_⟩
  · by_cases e : v = w
    · subst e
      rw [upO_same] at hn
      cases hn
      have hgM : grN a < M := h.some_lt hme.2.2.2
      exact ⟨hi, hic, rfl, by rw [hst, upI_same], hgM, fun e => by simp at e, fun e => by simp at e, by simp⟩
    · rw [upO_other _ _ e] at hn
      refine (h.P v hv n hn).arena rfl fun x hx _ => ?_
      rw [hst]
      by_cases e2 : x = a
      · rw [e2, upI_same]
      · rw [upI_other _ _ e2]
        exact hx
  · rw [hst, upI_other _ _ (hone v hv x hx)]
    by_cases e : v = w
    · subst e
      rw [upO_same] at hx
      exact h.live v hv x (hsub x hx)
    · rw [upO_other _ _ e] at hx
      exact h.live v hv x hx
  · rw [hst] at hx
    by_cases e : x = a
    · subst e
      obtain ⟨y1, -⟩ := h.seen x (by rw [hl]; decide)
      exact ⟨y1, .inr ⟨w, i, _, hw, upO_same _ _ _⟩⟩
    · rw [upI_other _ _ e] at hx
      obtain ⟨y1, y2⟩ := h.seen x hx
      refine ⟨y1, ?_⟩
      rcases y2 with ⟨v, hv, hxv⟩ | ⟨v, i', m', hv, hm'⟩
      · refine .inl ⟨v, hv, ?_⟩
        by_cases e2 : v = w
        · subst e2
          rw [upO_same]
          rw [ho] at hxv
          rcases List.mem_append.1 hxv with h1 | h1
          · exact List.mem_append_left _ h1
          · rcases List.mem_cons.1 h1 with h2 | h2
            · exact absurd h2 e
            · exact List.mem_append_right _ h2
        · rw [upO_other _ _ e2]
          exact hxv
      · have e2 : v ≠ w := fun e2 => by
          subst e2
          rw [hm] at hm'
          cases hm'
        exact .inr ⟨v, i', m', hv, by rw [upO_other _ _ e2]; exact hm'⟩
  · have h1 := h.countA hw (own' := upO own w (l1 ++ l2)) (mc' := upO mc w (some (.free a i ⟨grN a, 0, 0⟩))) (fun v hv => ⟨upO_other _ _ hv, upO_other _ _ hv⟩) x
    have h7 := h.C x
    rw [upO_same, upO_same, ho, hm] at h1
    simp only [mcC_none, mcC_free, ownC_app, ownC_cons] at h1
    omega
end
end Go.Proofs.YtopnkfbcphbbiaaDoor.S1
namespace Go.Proofs.YtopnkfbcphbbiaaDoor.S1
open Go.RowKit
open H8 (okP sizeF)
open A9 (Ar useA Ok9 okB bornS retireS diedS bN zN inS zN_bd newC cntW cntW_le wr64_id newC_le)
open F0 (upO upO_same upO_other headS linkS Pu Po sumN sumN_up sumN_ge)

def szO : List Int → Nat
  | [] => 0
  | h :: r => zN h + szO r
theorem szO_app : ∀ (a b : List Int), szO (a ++ b) = szO a + szO b
  | [], b => by simp [szO]
  | h :: r, b => by simp only [List.cons_append, szO, szO_app r b]; omega
def szF (m : Option Mc) : Nat := match m with
  | some (.free h _ _) => zN h
  | _ => 0
theorem szF_none : szF none = 0 := rfl
theorem szF_free (h : Int) (i : Nat) (m : Pu) : szF (some (.free h i m)) = zN h := rfl
theorem szF_gen (c b : Nat) : szF (some (.gen c b)) = 0 := rfl
/-- words that were part of a slot, and one more slot -/
theorem cntW_born {f g : Nat → Bool} {a m : Nat} (g1 : ∀ p, a ≤ p → p < a + m → g p = true) (g0 : ∀ p, ¬ (a ≤ p ∧ p < a + m) → g p = f p) : ∀ n, (∀ z, n = a + z → z ≤ m → cntW g n = cntW f n + newC f a z) ∧ (n ≤ a → cntW g n = cntW f n) ∧ (a + m ≤ n → cntW g n = cntW f n + newC f a m)
  | 0 => ⟨fun z hz hm => by
      obtain rfl : z = 0 := by omega
      rfl, fun _ => rfl, fun hn => by
      obtain rfl : m = 0 := by omega
      rfl⟩
  | n + 1 => by
    obtain ⟨h1, h2, h3⟩ := cntW_born g1 g0 n
    have hA : ∀ z, n + 1 = a + z → z ≤ m → cntW g (n + 1) = cntW f (n + 1) + newC f a z := fun z hz hm => by
      cases z with
      | zero =>
        simp only [cntW, newC]
        rw [h2 (by omega), g0 n (by omega)]
        rfl
      | succ z =>
        have h4 := h1 z (by omega) (by omega)
        simp only [cntW, newC]
        rw [h4, g1 n (by omega) (by omega), show a + z = n by omega]
        cases f n <;> simp <;> omega
    have hB : n + 1 ≤ a → cntW g (n + 1) = cntW f (n + 1) := fun hn => by
      simp only [cntW]
      rw [h2 (by omega), g0 n (by omega)]
    refine ⟨hA, hB, fun hn => ?_⟩
    by_cases e : n + 1 = a + m
    · exact hA m e (Nat.le_refl _)
    · simp only [cntW]
      rw [h3 (by omega), g0 n (by omega)]
      omega
theorem cntW_bd {f : Nat → Bool} {m : Nat} (h : ∀ p, f p = true → p < m) : ∀ n, cntW f n ≤ m
  | 0 => Nat.zero_le _
  | n + 1 => by
    by_cases e : f n = true
    · have := h n e
      have := cntW_le f (n + 1)
      omega
    · have := cntW_bd h n
      simp only [cntW, e]
      simpa using this
theorem cntW_all {f : Nat → Bool} {m : Nat} (h : ∀ p, f p = true ↔ p < m) : ∀ n, cntW f n = min n m
  | 0 => by simp [cntW]
  | n + 1 => by
    have ih := cntW_all h n
    simp only [cntW, ih]
    by_cases e : f n = true
    · have := (h n).1 e
      rw [if_pos e]
      omega
    · have : ¬ n < m := fun hh => e ((h n).2 hh)
      rw [if_neg e]
      omega
structure SxC (k : Nat) (s : Ar) (cg : Nat) (own : Nat → List Int) (mc : Nat → Option Mc) (T : Nat) : Prop where
  cL : s.cL = (sumN (fun w => szO (own w)) k : Nat)
  cR : s.cR = (sumN (fun w => szF (mc w)) k : Nat)
  bd : sumN (fun w => szO (own w)) k + sumN (fun w => szF (mc w)) k ≤ 64 * T
  cC : s.cC = (cntW s.was s.nw : Nat)
  wa : ∀ p, s.was p = true → p < 8 * cg
section
variable {k T w cg : Nat} {s : Ar} {own : Nat → List Int} {mc : Nat → Option Mc}
theorem SxC.same {s' : Ar} (h : SxC k s cg own mc T) (e1 : s'.cL = s.cL) (e2 : s'.cR = s.cR) (e3 : s'.cC = s.cC) (e4 : s'.was = s.was) (e5 : s'.nw = s.nw) : SxC k s' cg own mc T :=
  ⟨e1.trans h.cL, e2.trans h.cR, h.bd, by rw [e3, e4, e5]; exact h.cC, by rw [e4]; exact h.wa⟩
theorem SxC.wide (h : SxC k s cg own mc T) {T' : Nat} (hT : T ≤ T') : SxC k s cg own mc T' := ⟨h.cL, h.cR, by have := h.bd; omega, h.cC, h.wa⟩
theorem SxC.grow (h : SxC k s cg own mc T) {cg' : Nat} (hc : cg ≤ cg') : SxC k s cg' own mc T := ⟨h.cL, h.cR, h.bd, h.cC, fun p hp => by have := h.wa p hp; omega⟩
theorem sumO_up (own : Nat → List Int) (hw : w < k) (l : List Int) : sumN (fun v => szO (upO own w l v)) k + szO (own w) = sumN (fun v => szO (own v)) k + szO l := by
  have := (sumN_up (f := fun v => szO (own v)) (g := fun v => szO (upO own w l v)) (w := w) (fun i hi => by simp only [upO_other _ _ hi]) k).1 hw
  simp only [upO_same] at this
  exact this
theorem sumF_up (mc : Nat → Option Mc) (hw : w < k) (m : Option Mc) : sumN (fun v => szF (upO mc w m v)) k + szF (mc w) = sumN (fun v => szF (mc v)) k + szF m := by
  have := (sumN_up (f := fun v => szF (mc v)) (g := fun v => szF (upO mc w m v)) (w := w) (fun i hi => by simp only [upO_other _ _ hi]) k).1 hw
  simp only [upO_same] at this
  exact this
theorem SxC.turn (h : SxC k s cg own mc T) (hw : w < k) {m : Option Mc} (hm : szF m = szF (mc w)) : SxC k s cg own (upO mc w m) T := by
  have h1 := sumF_up mc hw m
  have h2 := h.bd
  exact ⟨h.cL, by rw [h.cR]; congr 1; omega, by omega, h.cC, h.wa⟩
theorem SxC.born (h : SxC k s cg own mc T) (hT : T ≤ 1000000) (hw : w < k) {a : Int} (hfit : bN a + zN a ≤ 8 * cg) (hcg : 8 * cg ≤ s.nw) (hN : s.nw ≤ 65536) {m : Option Mc} (hm : szF m = szF (mc w)) : SxC k (bornS s a) cg (upO own w (own w ++ [a])) (upO mc w m) (T + 1) := by
  have h1 := sumF_up mc hw m
  have h2 := sumO_up own hw (own w ++ [a])
  have h3 := h.bd
  have hz := zN_bd a
  rw [szO_app] at h2
  simp only [szO] at h2
  refine ⟨?_, by show s.cR = _; rw [h.cR]; congr 1; omega, by omega, ?_, fun p hp => ?_⟩
  · show wrap64 (s.cL + zN a) = _
    rw [h.cL, wr64_id (by omega) (by omega)]
    omega
  · show wrap64 (s.cC + newC s.was (bN a) (zN a)) = ((cntW (fun p => if inS a p then true else s.was p) s.nw : Nat) : Int)
    have h6 : cntW (fun p => if inS a p then true else s.was p) s.nw = cntW s.was s.nw + newC s.was (bN a) (zN a) :=
      (cntW_born (f := s.was) (g := fun p => if inS a p then true else s.was p) (a := bN a) (m := zN a) (fun p h1 h2 => if_pos ⟨h1, h2⟩) (fun p hp => if_neg hp) s.nw).2.2 (by omega)
    have h7 := cntW_le s.was s.nw
    have h8 := newC_le s.was (bN a) (zN a)
    rw [h6, h.cC, wr64_id (by omega) (by omega)]
    omega
  · change (if inS a p then true else s.was p) = true at hp
    by_cases e : inS a p
    · unfold inS at e
      omega
    · rw [if_neg e] at hp
      exact h.wa p hp
theorem SxC.retire (h : SxC k s cg own mc T) (hT : T ≤ 1000000) (hw : w < k) {l1 l2 : List Int} {a : Int} (ho : own w = l1 ++ a :: l2) (hm : mc w = none) {i : Nat} {n : Pu} : SxC k (retireS s a) cg (upO own w (l1 ++ l2)) (upO mc w (some (.free a i n))) T := by
  have h1 := sumF_up mc hw (some (.free a i n))
  have h2 := sumO_up own hw (l1 ++ l2)
  have h3 := h.bd
  have hz := zN_bd a
  rw [ho, szO_app, szO_app] at h2
  simp only [szO] at h2
  rw [hm, szF_none, szF_free] at h1
  refine ⟨?_, ?_, by omega, h.cC, h.wa⟩
  · show wrap64 (s.cL - zN a) = _
    rw [h.cL, wr64_id (by omega) (by omega)]
    omega
  · show wrap64 (s.cR + zN a) = _
    rw [h.cR, wr64_id (by omega) (by omega)]
    omega
theorem SxC.died (h : SxC k s cg own mc T) (hT : T ≤ 1000000) (hw : w < k) {a : Int} {i : Nat} {n : Pu} (hm : mc w = some (.free a i n)) : SxC k (diedS s a) cg own (upO mc w none) T := by
  have h1 := sumF_up mc hw none
  have h3 := h.bd
  have hz := zN_bd a
  rw [hm, szF_none, szF_free] at h1
  refine ⟨h.cL, ?_, by omega, h.cC, h.wa⟩
  show wrap64 (s.cR - zN a) = _
  rw [h.cR, wr64_id (by omega) (by omega)]
  omega
end
/-! ### at first -/
theorem sumN_zero {f : Nat → Nat} (h : ∀ i, f i = 0) : ∀ n, sumN f n = 0
  | 0 => rfl
  | n + 1 => by simp only [sumN, sumN_zero h n, h n]
theorem SxI.new {K M k : Nat} (r n : Int) (hr : K + M + M + 1 ≤ (A9.new9 r n false).nr) (hb : K + M + M + 1 ≤ 65536) (hn : (A9.new9 r n false).nw ≤ 8 * M) (hM : M ≤ 8192) (hK : K % 4 = 0) :
    SxI K M k (A9.new9 r n false) (fun _ => 0) (fun _ => 0) (fun _ => 0) 0 (fun _ => none) (fun _ => []) (fun _ => []) (fun _ => none) 0 := by
  refine { rw := ⟨⟨by omega, by omega, fun _ _ => rfl, fun _ _ => rfl⟩, hr, hb, fun _ _ => rfl, rfl⟩, cap := by omega, grs := hn, M8 := hM, K4 := hK, L := fun _ _ => ?_, tg := fun _ _ => by decide, cls := fun _ _ _ hb => by simp at hb, slot := fun _ _ hb => (by cases hb), apart := fun _ _ _ _ hb => (by cases hb), gn0 := fun _ _ => ⟨Int.le_refl _, by omega, rfl⟩, P := fun _ _ _ hm => (by cases hm), live := fun _ _ _ hh => by simp at hh, seen := fun _ hs => absurd rfl hs, C := fun x => ?_ }
  · exact ⟨rfl, trivial, List.nodup_nil, fun _ hb => by simp at hb, fun _ _ => ⟨Int.le_refl _, by show (0 : Int) ≤ M; omega⟩, by decide⟩
  · have e1 : sumN (fun _ => ([] : List Nat).count x) K = 0 := sumN_zero (fun _ => rfl) K
    have e2 : sumN (fun _ => ownC [] x + mcC none x) k = 0 := sumN_zero (fun _ => rfl) k
    rw [e1, e2]
    rfl
theorem SxC.new {k : Nat} (r n : Int) : SxC k (A9.new9 r n false) 0 (fun _ => []) (fun _ => none) 0 := by
  have e1 : sumN (fun _ => szO []) k = 0 := sumN_zero (fun _ => rfl) k
  have e2 : sumN (fun _ => szF none) k = 0 := sumN_zero (fun _ => rfl) k
  refine ⟨?_, ?_, ?_, ?_, fun p hp => by simp [A9.new9] at hp⟩
  · rw [e1]; rfl
  · rw [e2]; rfl
  · rw [e1, e2]; omega
  · have : ∀ m, cntW (fun _ => false) m = 0 := fun m => by
      induction m with
      | zero => rfl
      | succ m ih => simp only [cntW, ih]; rfl
    show (0 : Int) = ((cntW (fun _ => false) _ : Nat) : Int)
    rw [this]
    rfl
end Go.Proofs.YtopnkfbcphbbiaaDoor.S1
namespace Go.Proofs.YtopnkfbcphbbiaaDoor.S1
open Go.RowKit
open H8 (okP sizeF)
open A9 (Ar useA Ok9 okB bornS retireS diedS bN zN inS zN_bd rawA setRawA swapRawA addRawA bornA diedA)
open F0 (upH upL upLs upO upO_same upO_other headS linkS Ls Pu Po PuOk PoOk Old tagF codF mkF tag_mk cod_mk cod_bd trnF trnF_eq rawA_head sumN)

/-- what a step leaves: under way; gone back; refused; a slot, born -/
inductive Out where
  | go (m : Mc)
  | freed
  | refused
  | got (h : Int)
/-- the next list behind an empty one; behind the last: what is carved -/
def nextM (K c i n : Nat) : Mc := match n with
  | 0 => .look c
  | n + 1 => .pop c ((i + 4) % K) n ⟨0, 0, 0⟩
def stepF (K M : Nat) (s : Ar) : Mc → Ar × Out
  | .free h i m =>
    if m.ph = 0 then (useA s, .go (.free h i ⟨m.b, 1, s.raw i⟩))
    else if m.ph = 1 then (linkS K s m.b (codF m.h), .go (.free h i ⟨m.b, 2, m.h⟩))
    else if s.raw i = m.h then (diedS (headS s i (trnF m.h ((m.b : Int) + 1))) h, .freed)
    else (useA s, .go (.free h i ⟨m.b, 0, m.h⟩))
  | .pop c i n m =>
    if m.ph = 0 then (if codF (s.raw i) = 0 then (useA s, .go (nextM K c i n)) else (useA s, .go (.pop c i n ⟨1, s.raw i, 0⟩)))
    else if m.ph = 1 then (useA s, .go (.pop c i n ⟨2, m.h, s.raw (K + (codF m.h - 1).toNat)⟩))
    else if s.raw i = m.h then (headS s i (trnF m.h m.nx), .go (.gen c (codF m.h - 1).toNat))
    else (useA s, .go (.pop c i n ⟨0, m.h, m.nx⟩))
  | .look c => if s.raw (K + M + M) + 8 * (zg c : Int) ≤ s.nw then (useA s, .go (.carve c (s.raw (K + M + M)))) else (useA s, .refused)
  | .carve c v => if s.raw (K + M + M) = v then (headS s (K + M + M) (v + 8 * (zg c : Int)), .go (.gen c (v / 8).toNat)) else (useA s, .go (.look c))
  | .gen c b => (bornS (genS K M s b (s.raw (K + M + b) + 1)) (nmV b (s.raw (K + M + b) + 1) c), .got (nmV b (s.raw (K + M + b) + 1) c))
def endO (own : Nat → List Int) (w : Nat) : Out → Nat → List Int
  | .got h => upO own w (own w ++ [h])
  | _ => own
def endM (mc : Nat → Option Mc) (w : Nat) : Out → Nat → Option Mc
  | .go m => upO mc w (some m)
  | _ => upO mc w none
/-- at most so many words are carved, each slot by its own; and how many there are -/
structure Sl (K M k : Nat) (s : Ar) (hd lk gn : Nat → Int) (cg : Nat) (cl : Nat → Option Nat) (ls : Nat → List Nat) (own : Nat → List Int) (mc : Nat → Option Mc) (T : Nat) : Prop where
  I : SxI K M k s hd lk gn cg cl ls own mc T
  N : SxC k s cg own mc T
section
variable {K M k T w : Nat} {s : Ar} {hd lk gn : Nat → Int} {cg : Nat} {cl : Nat → Option Nat} {ls : Nat → List Nat} {own : Nat → List Int} {mc : Nat → Option Mc}
theorem Sl.use (h : Sl K M k s hd lk gn cg cl ls own mc T) : Sl K M k (useA s) hd lk gn cg cl ls own mc T := ⟨h.I.use, h.N.same rfl rfl rfl rfl rfl⟩
theorem Sl.wide (h : Sl K M k s hd lk gn cg cl ls own mc T) {T' : Nat} (hT : T ≤ T') : Sl K M k s hd lk gn cg cl ls own mc T' := ⟨h.I.wide hT, h.N.wide hT⟩
theorem Sl.turn (h : Sl K M k s hd lk gn cg cl ls own mc T) (hw : w < k) {m' : Option Mc} (hc : ∀ x, mcC m' x = mcC (mc w) x) (hz : szF m' = szF (mc w)) (hok : ∀ m, m' = some m → McOk K M s hd lk cl m) (hf : ∀ a, isFree (mc w) a → isFree m' a) : Sl K M k (useA s) hd lk gn cg cl ls own (upO mc w m') T :=
  Sl.use ⟨h.I.turn hw hc hok hf, h.N.turn hw hz⟩
theorem McOk.nextM (hK : K % 4 = 0) {c i : Nat} (hi : i < K) (hc : i % 4 = c) (n : Nat) : McOk K M s hd lk cl (nextM K c i n) := by
  cases n with
  | zero =>
    show c < 4
    omega
  | succ n =>
    refine ⟨Nat.mod_lt _ (by omega), ?_, fun e => by simp at e, fun e => by simp at e, by simp⟩
    obtain ⟨q, rfl⟩ : ∃ q, K = 4 * q := ⟨K / 4, by omega⟩
    rw [Nat.mod_mul_right_mod]
    omega
theorem mcC_nextM (K c i n x : Nat) : mcC (some (nextM K c i n)) x = 0 := by cases n <;> rfl
theorem szF_nextM (K c i n : Nat) : szF (some (nextM K c i n)) = 0 := by cases n <;> rfl
/-- a free's steps -/
theorem Sl.free0 (h : Sl K M k s hd lk gn cg cl ls own mc T) (hw : w < k) {a : Int} {i : Nat} {m : Pu} (hm : mc w = some (.free a i m)) : Sl K M k (useA s) hd lk gn cg cl ls own (upO mc w (some (.free a i ⟨m.b, 1, hd i⟩))) T := by
  obtain ⟨hi, h2, h3, h4, h5⟩ := h.I.P w hw _ hm
  refine h.turn hw (fun x => by rw [hm]; rfl) (by rw [hm]; rfl) (fun n hn => ?_) fun x hx => ?_
  · cases hn
    exact ⟨hi, h2, h3, h4, h5.1, fun _ => ⟨Old.now _, (h.I.L i hi).cod⟩, fun e => by simp at e, by simp⟩
  · rw [hm] at hx
    obtain ⟨i', n', e⟩ := hx
    cases e
    exact ⟨_, _, rfl⟩
theorem Sl.free1 (h : Sl K M k s hd lk gn cg cl ls own mc T) (hw : w < k) {a : Int} {i : Nat} {m : Pu} (hm : mc w = some (.free a i m)) (hp : m.ph = 1) : Sl K M k (linkS K s m.b (codF m.h)) hd (upL lk m.b (codF m.h)) gn cg cl ls own (upO mc w (some (.free a i ⟨m.b, 2, m.h⟩))) T :=
  ⟨h.I.link hw hm hp, (h.N.turn hw (m := some (.free a i ⟨m.b, 2, m.h⟩)) (by rw [hm]; rfl)).same rfl rfl rfl rfl rfl⟩
theorem Sl.free2n (h : Sl K M k s hd lk gn cg cl ls own mc T) (hw : w < k) {a : Int} {i : Nat} {m : Pu} (hm : mc w = some (.free a i m)) : Sl K M k (useA s) hd lk gn cg cl ls own (upO mc w (some (.free a i ⟨m.b, 0, m.h⟩))) T := by
  obtain ⟨hi, h2, h3, h4, h5⟩ := h.I.P w hw _ hm
  refine h.turn hw (fun x => by rw [hm]; rfl) (by rw [hm]; rfl) (fun n hn => ?_) fun x hx => ?_
  · cases hn
    exact ⟨hi, h2, h3, h4, h5.1, fun e => by simp at e, fun e => by simp at e, by simp⟩
  · rw [hm] at hx
    obtain ⟨i', n', e⟩ := hx
    cases e
    exact ⟨_, _, rfl⟩
theorem Sl.trn (h : Sl K M k s hd lk gn cg cl ls own mc T) (hT : T ≤ 1000000) {i : Nat} (hi : i < K) {x : Int} (h0 : 0 ≤ x) (h1 : x < 131072) : trnF (hd i) x = mkF (tagF (hd i) + 1) x := by
  have a := (h.I.L i hi).tag
  have b := h.I.tg i hi
  exact trnF_eq a (by omega) h0 h1
theorem Sl.free2 (h : Sl K M k s hd lk gn cg cl ls own mc T) (hT : T ≤ 1000000) (hw : w < k) {a : Int} {i : Nat} {m : Pu} (hm : mc w = some (.free a i m)) (hp : m.ph = 2) (he : m.h = hd i) :
    Sl K M k (diedS (headS s i (mkF (tagF (hd i) + 1) ((m.b : Int) + 1))) a) (upH hd i (mkF (tagF (hd i) + 1) ((m.b : Int) + 1))) lk gn cg cl (upLs ls i (m.b :: ls i)) own (upO mc w none) (T + 1) :=
  ⟨h.I.pushGo hw hm hp he, ((h.N.same (s' := headS s i (mkF (tagF (hd i) + 1) ((m.b : Int) + 1))) rfl rfl rfl rfl rfl).died hT hw hm).wide (by omega)⟩
/-- a pop's steps -/
theorem Sl.pop0e (h : Sl K M k s hd lk gn cg cl ls own mc T) (hw : w < k) {c i n : Nat} {m : Po} (hm : mc w = some (.pop c i n m)) : Sl K M k (useA s) hd lk gn cg cl ls own (upO mc w (some (nextM K c i n))) T := by
  obtain ⟨hi, h2, h5⟩ := h.I.P w hw _ hm
  exact h.turn hw (fun x => by rw [hm, mcC_nextM]; rfl) (by rw [hm, szF_nextM]; rfl) (fun n' hn => by cases hn; exact McOk.nextM h.I.K4 hi h2 n) fun x hx => by
    rw [hm] at hx
    obtain ⟨i', n', e⟩ := hx
    cases e
theorem Sl.pop0 (h : Sl K M k s hd lk gn cg cl ls own mc T) (hw : w < k) {c i n : Nat} {m : Po} (hm : mc w = some (.pop c i n m)) (hc : codF (hd i) ≠ 0) : Sl K M k (useA s) hd lk gn cg cl ls own (upO mc w (some (.pop c i n ⟨1, hd i, 0⟩))) T := by
  obtain ⟨hi, h2, h5⟩ := h.I.P w hw _ hm
  exact h.turn hw (fun x => by rw [hm]; rfl) (by rw [hm]; rfl) (fun n' hn => by
    cases hn
    exact ⟨hi, h2, fun _ => ⟨Old.now _, hc, (h.I.L i hi).cod⟩, fun e => by simp at e, by simp⟩) fun x hx => by
    rw [hm] at hx
    obtain ⟨i', n', e⟩ := hx
    cases e
theorem Sl.pop1 (h : Sl K M k s hd lk gn cg cl ls own mc T) (hw : w < k) {c i n : Nat} {m : Po} (hm : mc w = some (.pop c i n m)) (hp : m.ph = 1) : (codF m.h - 1).toNat < M ∧ Sl K M k (useA s) hd lk gn cg cl ls own (upO mc w (some (.pop c i n ⟨2, m.h, lk (codF m.h - 1).toNat⟩))) T := by
  obtain ⟨hi, h2, h5⟩ := h.I.P w hw _ hm
  obtain ⟨o1, o2, o3⟩ := h5.1 (.inl hp)
  have hcb := cod_bd m.h
  have hb : (codF m.h - 1).toNat < M := by omega
  exact ⟨hb, h.turn hw (fun x => by rw [hm]; rfl) (by rw [hm]; rfl) (fun n' hn => by
    cases hn
    exact ⟨hi, h2, fun _ => ⟨o1, o2, o3⟩, fun _ => ⟨fun _ => rfl, (h.I.L i hi).lb _ hb⟩, by simp⟩) fun x hx => by
    rw [hm] at hx
    obtain ⟨i', n', e⟩ := hx
    cases e⟩
theorem Sl.pop2n (h : Sl K M k s hd lk gn cg cl ls own mc T) (hw : w < k) {c i n : Nat} {m : Po} (hm : mc w = some (.pop c i n m)) : Sl K M k (useA s) hd lk gn cg cl ls own (upO mc w (some (.pop c i n ⟨0, m.h, m.nx⟩))) T := by
  obtain ⟨hi, h2, h5⟩ := h.I.P w hw _ hm
  exact h.turn hw (fun x => by rw [hm]; rfl) (by rw [hm]; rfl) (fun n' hn => by
    cases hn
    exact ⟨hi, h2, fun e => by simp at e, fun e => by simp at e, by simp⟩) fun x hx => by
    rw [hm] at hx
    obtain ⟨i', n', e⟩ := hx
    cases e
theorem Sl.pop2 (h : Sl K M k s hd lk gn cg cl ls own mc T) (hw : w < k) {c i n : Nat} {m : Po} (hm : mc w = some (.pop c i n m)) (hp : m.ph = 2) (he : m.h = hd i) :
    ∃ b r, ls i = b :: r ∧ codF m.h = (b : Int) + 1 ∧ Sl K M k (headS s i (mkF (tagF (hd i) + 1) m.nx)) (upH hd i (mkF (tagF (hd i) + 1) m.nx)) lk gn cg cl (upLs ls i r) own (upO mc w (some (.gen c b))) (T + 1) := by
  obtain ⟨b, r, h1, h2, h3⟩ := h.I.popGo hw hm hp he
  exact ⟨b, r, h1, h2, h3, ((h.N.turn hw (m := some (.gen c b)) (by rw [hm]; rfl)).same (s' := headS s i (mkF (tagF (hd i) + 1) m.nx)) rfl rfl rfl rfl rfl).wide (by omega)⟩
/-- what is carved -/
theorem Sl.look0 (h : Sl K M k s hd lk gn cg cl ls own mc T) (hw : w < k) {c : Nat} (hm : mc w = some (.look c)) (hf : 8 * (cg : Int) + 8 * (zg c : Int) ≤ s.nw) : Sl K M k (useA s) hd lk gn cg cl ls own (upO mc w (some (.carve c (8 * (cg : Int))))) T :=
  h.turn hw (fun x => by rw [hm]; rfl) (by rw [hm]; rfl) (fun n' hn => by
    cases hn
    exact ⟨h.I.P w hw _ hm, hf⟩) fun x hx => by
    rw [hm] at hx
    obtain ⟨i', n', e⟩ := hx
    cases e
theorem Sl.look1 (h : Sl K M k s hd lk gn cg cl ls own mc T) (hw : w < k) {c : Nat} (hm : mc w = some (.look c)) : Sl K M k (useA s) hd lk gn cg cl ls own (upO mc w none) T :=
  h.turn hw (fun x => by rw [hm]; rfl) (by rw [hm]; rfl) (fun n' hn => by cases hn) fun x hx => by
    rw [hm] at hx
    obtain ⟨i', n', e⟩ := hx
    cases e
theorem Sl.carve0 (h : Sl K M k s hd lk gn cg cl ls own mc T) (hw : w < k) {c : Nat} {v : Int} (hm : mc w = some (.carve c v)) : Sl K M k (useA s) hd lk gn cg cl ls own (upO mc w (some (.look c))) T :=
  h.turn hw (fun x => by rw [hm]; rfl) (by rw [hm]; rfl) (fun n' hn => by
    cases hn
    exact (h.I.P w hw _ hm).1) fun x hx => by
    rw [hm] at hx
    obtain ⟨i', n', e⟩ := hx
    cases e
theorem Sl.carve1 (h : Sl K M k s hd lk gn cg cl ls own mc T) (hw : w < k) {c : Nat} {v : Int} (hm : mc w = some (.carve c v)) (he : v = 8 * (cg : Int)) : Sl K M k (headS s (K + M + M) (8 * ((cg + zg c : Nat) : Int))) hd lk gn (cg + zg c) (upC cl cg c) ls own (upO mc w (some (.gen c cg))) T :=
  ⟨h.I.carveGo hw hm he, ((h.N.turn hw (m := some (.gen c cg)) (by rw [hm]; rfl)).grow (by omega)).same rfl rfl rfl rfl rfl⟩
theorem Sl.gen (h : Sl K M k s hd lk gn cg cl ls own mc T) (hO : Ok9 s) (hT : T ≤ 1000000) (hw : w < k) {c b : Nat} (hm : mc w = some (.gen c b)) :
    okB (genS K M s b (gn b + 1)) (nmV b (gn b + 1) c) ∧ okP (8 * (b : Int)) (gn b + 1) c ∧ b < M ∧ Sl K M k (bornS (genS K M s b (gn b + 1)) (nmV b (gn b + 1) c)) hd lk (upH gn b (gn b + 1)) cg cl ls (upO own w (own w ++ [nmV b (gn b + 1) c])) (upO mc w none) (T + 1) := by
  obtain ⟨h1, h2, h3⟩ := h.I.mayB hO hT hw hm
  have hbc : cl b = some c := h.I.P w hw _ hm
  have hb := h.I.Mlt hbc
  obtain ⟨hc4, hf⟩ := h.I.slot b c hbc
  refine ⟨h1, h2, hb, h.I.born hO hT hw hm, ?_⟩
  refine (h.N.same (s' := genS K M s b (gn b + 1)) rfl rfl rfl rfl rfl).born hT hw ?_ h.I.cap hO.most.1 (by rw [hm]; rfl)
  rw [nm_b h2, zN_zg, nm_cl h2]
  omega
/-- any step -/
theorem Sl.step (h : Sl K M k s hd lk gn cg cl ls own mc T) (hO : Ok9 s) (hT : T ≤ 1000000) (hw : w < k) {m : Mc} (hm : mc w = some m) :
    ∃ hd' lk' gn' cg' cl' ls', Sl K M k (stepF K M s m).1 hd' lk' gn' cg' cl' ls' (endO own w (stepF K M s m).2) (endM mc w (stepF K M s m).2) (T + 1) := by
  have hR := h.I.rw
  have hP := h.I.P w hw _ hm
  have hM := h.I.M8
  cases m with
  | free a i m =>
    obtain ⟨hi, h2, h3, h4, h5⟩ := hP
    have e0 := hR.hds i hi
    unfold stepF
    simp only [e0]
    rcases (by have := h5.2.2.2; omega : m.ph = 0 ∨ m.ph = 1 ∨ m.ph = 2) with p0 | p1 | p2
    · rw [if_pos p0]
      exact ⟨_, _, _, _, _, _, (h.free0 hw hm).wide (by omega)⟩
    · rw [if_neg (by omega), if_pos p1]
      exact ⟨_, _, _, _, _, _, (h.free1 hw hm p1).wide (by omega)⟩
    · rw [if_neg (by omega), if_neg (by omega)]
      by_cases e : hd i = m.h
      · rw [if_pos e]
        have hb := h5.1
        rw [← e, h.trn hT hi (by omega) (by omega)]
        exact ⟨_, _, _, _, _, _, h.free2 hT hw hm p2 e.symm⟩
      · rw [if_neg e]
        exact ⟨_, _, _, _, _, _, (h.free2n hw hm).wide (by omega)⟩
  | pop c i n m =>
    obtain ⟨hi, h2, h5⟩ := hP
    have e0 := hR.hds i hi
    unfold stepF
    simp only [e0]
    rcases (by have := h5.2.2; omega : m.ph = 0 ∨ m.ph = 1 ∨ m.ph = 2) with p0 | p1 | p2
    · rw [if_pos p0]
      by_cases e : codF (hd i) = 0
      · rw [if_pos e]
        exact ⟨_, _, _, _, _, _, (h.pop0e hw hm).wide (by omega)⟩
      · rw [if_neg e]
        exact ⟨_, _, _, _, _, _, (h.pop0 hw hm e).wide (by omega)⟩
    · rw [if_neg (by omega), if_pos p1]
      obtain ⟨hb, h6⟩ := h.pop1 hw hm p1
      rw [hR.lks _ hb]
      exact ⟨_, _, _, _, _, _, h6.wide (by omega)⟩
    · rw [if_neg (by omega), if_neg (by omega)]
      by_cases e : hd i = m.h
      · rw [if_pos e]
        have hn := (h5.2.1 p2).2
        obtain ⟨b, r, -, h7, h8⟩ := h.pop2 hw hm p2 e.symm
        rw [h7, show ((b : Int) + 1 - 1).toNat = b by omega, ← e, h.trn hT hi hn.1 (by omega)]
        exact ⟨_, _, _, _, _, _, h8⟩
      · rw [if_neg e]
        exact ⟨_, _, _, _, _, _, (h.pop2n hw hm).wide (by omega)⟩
  | look c =>
    unfold stepF
    simp only [hR.cvr]
    by_cases e : 8 * (cg : Int) + 8 * (zg c : Int) ≤ s.nw
    · rw [if_pos e]
      exact ⟨_, _, _, _, _, _, (h.look0 hw hm e).wide (by omega)⟩
    · rw [if_neg e]
      exact ⟨_, _, _, _, _, _, (h.look1 hw hm).wide (by omega)⟩
  | carve c v =>
    unfold stepF
    simp only [hR.cvr]
    by_cases e : 8 * (cg : Int) = v
    · rw [if_pos e, ← e, show (8 * (cg : Int) / 8).toNat = cg by omega, show 8 * (cg : Int) + 8 * (zg c : Int) = 8 * ((cg + zg c : Nat) : Int) by omega]
      exact ⟨_, _, _, _, _, _, (h.carve1 hw hm e.symm).wide (by omega)⟩
    · rw [if_neg e]
      exact ⟨_, _, _, _, _, _, (h.carve0 hw hm).wide (by omega)⟩
  | gen c b =>
    obtain ⟨-, -, hb, h6⟩ := h.gen hO hT hw hm
    unfold stepF
    simp only [hR.gns b hb]
    exact ⟨_, _, _, _, _, _, h6⟩
/-- one slot is retired, and goes back -/
theorem Sl.retire (h : Sl K M k s hd lk gn cg cl ls own mc T) (hT : T ≤ 1000000) (hw : w < k) {l1 l2 : List Int} {a : Int} (ho : own w = l1 ++ a :: l2) (hm : mc w = none) {i : Nat} (hi : i < K) (hic : i % 4 = clN a) :
    Sl K M k (retireS s a) hd lk gn cg cl ls (upO own w (l1 ++ l2)) (upO mc w (some (.free a i ⟨grN a, 0, 0⟩))) T :=
  ⟨h.I.retire hw ho hm hi hic, h.N.retire hT hw ho hm⟩
/-- one is asked for -/
theorem Sl.ask (h : Sl K M k s hd lk gn cg cl ls own mc T) (hw : w < k) (hm : mc w = none) {c i n : Nat} (hi : i < K) (hic : i % 4 = c) : Sl K M k s hd lk gn cg cl ls own (upO mc w (some (.pop c i n ⟨0, 0, 0⟩))) T :=
  ⟨h.I.turn hw (fun x => by rw [hm]; rfl) (fun n' hn => by
    cases hn
    exact ⟨hi, hic, fun e => by simp at e, fun e => by simp at e, by simp⟩) (fun x hx => by
    rw [hm] at hx
    obtain ⟨i', n', e⟩ := hx
    cases e), h.N.turn hw (by rw [hm]; rfl)⟩
end
theorem step_uses (K M : Nat) (s : Ar) (m : Mc) : (stepF K M s m).1.uses = wrap64 (s.uses + 1) ∧ (stepF K M s m).1.bad = s.bad := by
  cases m <;> simp only [stepF] <;> (repeat' split) <;> exact ⟨rfl, rfl⟩
end Go.Proofs.YtopnkfbcphbbiaaDoor.S1
