/-
  Helpers: Zo, Zp, Zq.
-/
import Derived.Test.YtopnkfbcphbbiaaDoorBunda603bf92473
namespace Go.Proofs.YtopnkfbcphbbiaaDoor
open Go.RowKit
open H8 (okP sizeF HTab below_then packV packF isH)
open A9 (Ab ArAt ArMem FrA Ar rawA setRawA useA ptrA Ok9 MapI But SrcN Left9 isTab htab_keep upF src_one bN)
open F0 (Pl5 Tn PuAt PoAt FrS noT noT_new plBox plS plS_of below_next Wk Pu Po upO)
open S1 (RowO MAt Mc Out FeM FeR stepF grN clN clN_lt PlS)

theorem nilSc (a : Addr) (w : World) : (nilAhead 238 34 (.pointer (some a)) "Step").run Tryd.prog w = .ok (some false) w := by kernel_rfl
theorem mthSc (a : Addr) (w : World) : (method 238 34 (.pointer (some a)) "Step").run Tryd.prog w = .ok (15, .pointer (some a)) w := by kernel_rfl
abbrev ifSc (q : Nat) : Value := .iface 34 (.pointer (some ⟨q, 0, none⟩))
/-- a step may be done -/
structure StOk (K M : Nat) (t : Tb) (s : Ar) (sc : Sc) : Prop where
  I : ∃ cg ls live m0 T, ScI K M t s cg ls live m0 sc T
  T : TbOk K M t s
  len : sc.lf.length + sc.hs.length ≤ 10000
  ne : endS t sc = false
/-- so many steps, each by J -/
def Goes (K M : Nat) (t : Tb) (J : Nat → Ar → Sc → Prop) (Q : Ar → Sc → Prop) : Prop := ∀ n s sc, J n s sc → StOk K M t s sc ∧
  ((endS t (scF K M t s sc).2 = true ∧ 1 ≤ n ∧ Q (scF K M t s sc).1 (scF K M t s sc).2) ∨ (endS t (scF K M t s sc).2 = false ∧ ∃ n', n' < n ∧ J n' (scF K M t s sc).1 (scF K M t s sc).2))
theorem scF_uses {K M : Nat} {t : Tb} {s : Ar} {sc : Sc} (h : endS t sc = false) : (scF K M t s sc).1.uses = wrap64 (s.uses + 1) := by
  unfold scF
  split
  · rfl
  · rename_i hl
    split
    · rename_i hs
      unfold endS at h
      rw [hs] at h
      simp [hl] at h
    · exact (S1.step_uses K M s _).1
structure RnS (B : Ab) (base : Nat) (W : World) (p : Pl5) (t : Tb) (q : Nat) (J : Nat → Ar → Sc → Prop) (i : Nat) (w : World) (s : Ar) (sc : Sc) (b : Sb) (n : Nat) : Prop where
  ar : ArAt B w s
  M : ScM B base w p t sc b
  q : b.q = q
  fr : FrB B base W w
  J : J n s sc
  le : i + n ≤ 2000
def EndSc (B : Ab) (base : Nat) (W : World) (p : Pl5) (t : Tb) (q : Nat) (Q : Ar → Sc → Prop) (e : Ending) (w : World) : Prop :=
  e = .returned (.bool true) ∧ ∃ s sc b, Q s sc ∧ endS t sc = true ∧ ArAt B w s ∧ ScM B base w p t sc b ∧ b.q = q ∧ FrB B base W w
section
variable {B : Ab} {base : Nat} {w w' W : World} {p : Pl5} {t : Tb} {sc : Sc} {b : Sb} {s : Ar} {K M q : Nat} {J : Nat → Ar → Sc → Prop} {Q : Ar → Sc → Prop}
theorem RnS.step {i n : Nat} (h : RnS B base W p t q J i w s sc b n) (hG : Goes K M t J Q) (hp : PlS K M p) (hO : Old B base) (h0 : base ≤ W.heap.size) :
    Calls Tryd.prog 15 #[.pointer (some ⟨q, 0, none⟩), ptrA B] w fun e w' => ∃ d s', e = .returned (.bool d) ∧ s'.uses = wrap64 (s.uses + 1) ∧ ArAt B w' s' ∧
      (d = true → EndSc B base W p t q Q (.returned (.bool true)) w') ∧ (d = false → ∃ sc' b' n', RnS B base W p t q J (i + 1) w' s' sc' b' n') := by
  obtain ⟨⟨⟨cg, ls, live, m0, T, hI⟩, hT, hl, hne⟩, hG⟩ := hG n s sc h.J
  have k := Step_any h.ar h.M hO (Nat.le_trans h0 h.fr.size) hp hI hT hl
  rw [h.q] at k
  refine k.mono fun e w' hh => ?_
  obtain ⟨e1, e2, e3, b', e4, e5⟩ := hh
  refine ⟨_, (scF K M t s sc).1, e1, scF_uses hne, e2, fun hd => ?_, fun hd => ?_⟩
  · rcases hG with ⟨-, -, g2⟩ | ⟨g1, -⟩
    · exact ⟨rfl, _, _, b', g2, hd, e2, e5, e4.trans h.q, h.fr.trans e3⟩
    · rw [g1] at hd
      cases hd
  · rcases hG with ⟨g1, -⟩ | ⟨-, n', g2, g3⟩
    · rw [g1] at hd
      cases hd
    · have := h.le
      exact ⟨_, b', n', e2, e5, e4.trans h.q, h.fr.trans e3, g3, by omega⟩
set_option maxHeartbeats 1000000 in
theorem runSc (hA : ArAt B w s) (hM : ScM B base w p t sc b) (hG : Goes K M t J Q) (hp : PlS K M p) (hO : Old B base) (h0 : base ≤ w.heap.size) {n : Nat} (hJ : J n s sc) (hn : n ≤ 2000) :
    Calls Tryd.prog 16 #[ptrA B, ifSc b.q] w (EndSc B base w p t b.q Q) := by
  have HR : Hid (RnS B base w p t b.q J 0 w s sc b n) := ⟨hA, hM, rfl, FrB.refl _ _ _, hJ, by omega⟩
  have HG : Hid (Goes K M t J Q) := hG
  have hn1 := nilSc ⟨b.q, 0, none⟩
  have hm1 := mthSc ⟨b.q, 0, none⟩
  generalize b.q = q at *
  clear hA hM hJ hn hG
  go_enter Tryd.func16, Tryd.ntmps16
  go_wp2_with fail
  go_loopw [5] (fun iv wr => ∃ i : Nat, iv = .int .i64 i ∧ ∃ s sc b n, RnS B base w p t q J i wr s sc b n) (fun iv _ => 2000 - (intOf iv).toNat)
  case atStart => exact ⟨0, rfl, _, _, _, _, HR.out⟩
  case round =>
    obtain ⟨i, rfl, s1, sc1, b1, n1, hR⟩ := hrel
    clear HR
    obtain ⟨wq, rfl⟩ : ∃ W, W = wr := ⟨wr, rfl⟩
    have hi3 : (i : Int) < 2000 := by
      have h1 := hR.le
      have h2 : 1 ≤ n1 := by
        rcases (HG.out n1 s1 sc1 hR.J).2 with ⟨-, g, -⟩ | ⟨-, n', g, -⟩ <;> omega
      omega
    have ku := A9.Uses_any hR.ar
    have ks := hR.step HG.out hp hO h0
    clear hR
    go_wp2_with fail
    refine ku.mono ?_
    rintro e w1 ⟨rfl, rfl⟩
    go_wp2_with fail
    refine ks.mono ?_
    rintro e w2 ⟨d, s2, rfl, hu, hA2, ht, hf⟩
    have ku2 := A9.Uses_any hA2
    have hdec : decide (wrap64 (s1.uses + 1) < s2.uses) = false := by simp [hu]
    clear hA2 hu ku ks
    generalize s1.uses = u1 at *
    generalize s2.uses = u2 at *
    go_wp2_with fail
    refine ku2.mono ?_
    rintro e w3 ⟨rfl, rfl⟩
    cases d with
    | true =>
      have HE : Hid (EndSc B base w p t q Q (.returned (.bool true)) w3) := ht rfl
      clear ht hf
      go_wp2_with fail
      go_ret
      exact HE.out
    | false =>
      have HE : Hid (∃ sc' b' n', RnS B base w p t q J (i + 1) w3 s2 sc' b' n') := hf rfl
      clear ht hf
      go_wp2_with fail
      go_roundw
      case rel =>
        obtain ⟨sc', b', n', h⟩ := HE.out
        exact ⟨i + 1, by go_num, _, sc', b', n', h⟩
      case measure => simp [intOf]; omega
end
end Go.Proofs.YtopnkfbcphbbiaaDoor
namespace Go.Proofs.YtopnkfbcphbbiaaDoor
open Go.RowKit
open H8 (okP sizeF isH)
open A9 (Ar useA Ok9 okB bornS retireS diedS bN zN inS rawA setRawA upN upN_other inR)
open F0 (upO upO_same upO_other upLs upLs_same upLs_other Pu Po)
open S1 (Mc Out stepF grN clN PlS)

/-- a word names it -/
def nmd (s : Ar) (t : Tb) (x : Int) : Bool := decide (∃ j, j < 2 * t.tw ∧ x = s.raw (t.a + j))
def phO (sc : Sc) : Nat := match frO sc with
  | some x => x.2.ph
  | none => 0
def rem (t : Tb) (sc : Sc) : Nat := (2 * t.tw - sc.lk) + 3 * sc.hs.length - phO sc
/-- all that holds while a scan goes on by itself -/
structure ScR (K M : Nat) (t : Tb) (s0 : Ar) (l : List Int) (cg : Nat) (ls0 : Nat → List Nat) (live : List Int) (m0 : Option Mc) (T0 : Nat) (s : Ar) (sc : Sc) : Prop where
  I : ∃ ls T, ScI K M t s cg ls live m0 sc T ∧ T + rem t sc ≤ T0 + (2 * t.tw + 3 * l.length) ∧ (ls (4 * t.wk)).length + sc.hs.length + sc.lf.length = (ls0 (4 * t.wk)).length + l.length
  far : ∀ j, K + M + M < j → s.raw j = s0.raw j
  nr : s.nr = s0.nr
  nw : s.nw = s0.nw
  bad : s.bad = s0.bad
  fresh : s.fresh = s0.fresh
  mem : s0.fresh = false → s.mem = s0.mem
  cC : s.cC = s0.cC
  us : s0.uses + sc.lk ≤ s.uses ∧ s.uses + rem t sc ≤ s0.uses + (2 * t.tw + 3 * l.length)
  sub : ∀ x, x ∈ sc.hs → x ∈ l
  kn : sc.lk < 2 * t.tw → sc.hs = l ∧ ∀ v, v ∈ sc.sn ↔ ∃ j, j < sc.lk ∧ v = s0.raw (t.a + j)
  fin : ¬ sc.lk < 2 * t.tw → sc.lf = l.filter (nmd s0 t) ∧ ∃ d, l.filter (fun x => !nmd s0 t x) = d ++ sc.hs
section
variable {K M T T0 cg : Nat} {t : Tb} {s s' s0 : Ar} {ls ls0 : Nat → List Nat} {live l : List Int} {m0 : Option Mc} {sc : Sc}
theorem filter_part (f : Int → Bool) (l : List Int) : (l.filter fun x => !f x).length + (l.filter f).length = l.length := by
  induction l with
  | nil => rfl
  | cons x l ih =>
    simp only [List.filter_cons]
    cases f x
    · simp
      omega
    · simp
      omega
theorem phO_none (e : sc.fr = none) : phO sc = 0 := by
  unfold phO
  rw [frO_none e]
theorem phO_first {x : Int} {tl : List Int} (e : sc.hs = x :: tl) : phO sc = (prO sc.fr x).ph := by
  unfold phO frO
  rw [e]
  cases hf : sc.fr with
  | none => rfl
  | some m => rfl
theorem ScR.step (h : ScR K M t s0 l cg ls0 live m0 T0 s sc) (hc : ∀ x, x ∈ l → clN x = 0) (hT : TbOk K M t s0) (hT0 : T0 + (2 * t.tw + 3 * l.length) ≤ 900000) (hu : 0 ≤ s0.uses) (hu2 : s0.uses ≤ 1000000000000) (hne : endS t sc = false) :
    ScR K M t s0 l cg ls0 live m0 T0 (scF K M t s sc).1 (scF K M t s sc).2 ∧ rem t (scF K M t s sc).2 < rem t sc := by
  obtain ⟨ls, T, hI, hTn, hLn⟩ := h.I
  obtain ⟨u1, u2⟩ := h.us
  have huse := scF_uses (K := K) (M := M) (s := s) hne
  obtain ⟨k1, k2, k3, k4, k5, k6⟩ := hI.same
  have hus : (scF K M t s sc).1.uses = s.uses + 1 := by
    rw [huse]
    exact A9.wr64_id (by omega) (by omega)
  have key : ∀ ls' T', ScI K M t (scF K M t s sc).1 cg ls' live m0 (scF K M t s sc).2 T' → T' ≤ T + 1 → rem t (scF K M t s sc).2 < rem t sc → (ls' (4 * t.wk)).length + (scF K M t s sc).2.hs.length + (scF K M t s sc).2.lf.length = (ls0 (4 * t.wk)).length + l.length → (scF K M t s sc).2.lk ≤ sc.lk + 1 → (∀ x, x ∈ (scF K M t s sc).2.hs → x ∈ sc.hs) → ((scF K M t s sc).2.lk < 2 * t.tw → (scF K M t s sc).2.hs = l ∧ ∀ v, v ∈ (scF K M t s sc).2.sn ↔ ∃ j, j < (scF K M t s sc).2.lk ∧ v = s0.raw (t.a + j)) → (¬ (scF K M t s sc).2.lk < 2 * t.tw → (scF K M t s sc).2.lf = l.filter (nmd s0 t) ∧ ∃ d, l.filter (fun x => !nmd s0 t x) = d ++ (scF K M t s sc).2.hs) → ScR K M t s0 l cg ls0 live m0 T0 (scF K M t s sc).1 (scF K M t s sc).2 ∧ rem t (scF K M t s sc).2 < rem t sc := fun ls' T' z1 z2 z3 z4 z5 z6 z7 z8 => by
    refine ⟨⟨⟨ls', T', z1, by omega, z4⟩, fun j hj => (k1 j hj).trans (h.far j hj), k2.trans h.nr, k3.trans h.nw, k5.trans h.bad, k4.trans h.fresh, fun hf => (k6 (h.fresh.trans hf)).trans (h.mem hf), (scF_cC K M t s sc).trans h.cC, ?_, fun x hx => h.sub x (z6 x hx), z7, z8⟩, z3⟩
    rw [hus]
    constructor
    · have : ((scF K M t s sc).2.lk : Int) ≤ sc.lk + 1 := by omega
      omega
    · omega
  by_cases hl : sc.lk < 2 * t.tw
  · obtain ⟨e1, e2⟩ := hI.lo hl
    obtain ⟨e3, e4⟩ := h.kn hl
    have hI2 := hI.look hl (s.raw (t.a + sc.lk))
    have hraw : s.raw (t.a + sc.lk) = s0.raw (t.a + sc.lk) := h.far _ (by have := hT.far; omega)
    have hr0 : rem t sc = (2 * t.tw - sc.lk) + 3 * l.length := by
      unfold rem
      rw [phO_none e2, e3]
      omega
    have hsn : ∀ v, v ∈ s.raw (t.a + sc.lk) :: sc.sn ↔ ∃ j, j < sc.lk + 1 ∧ v = s0.raw (t.a + j) := fun v => by
      rw [List.mem_cons, e4, hraw]
      constructor
      · rintro (rfl | ⟨j, a, b⟩)
        · exact ⟨_, Nat.lt_succ_self _, rfl⟩
        · exact ⟨j, by omega, b⟩
      · rintro ⟨j, a, b⟩
        by_cases e : j = sc.lk
        · exact .inl (by rw [b, e])
        · exact .inr ⟨j, by omega, b⟩
    have eF := scF_look (K := K) (M := M) (s := s) hl
    by_cases hl2 : sc.lk + 1 < 2 * t.tw
    · have e5 : scLook t sc (s.raw (t.a + sc.lk)) = ⟨sc.lk + 1, s.raw (t.a + sc.lk) :: sc.sn, sc.hs, sc.lf, sc.fr⟩ := by
        unfold scLook
        rw [if_pos hl2]
      rw [e5] at eF hI2
      rw [eF] at key ⊢
      refine key ls T hI2 (Nat.le_succ _) ?_ hLn (Nat.le_refl _) (fun x hx => hx) (fun _ => ⟨e3, hsn⟩) (fun hh => absurd hl2 hh)
      have e8 : phO (⟨sc.lk + 1, s.raw (t.a + sc.lk) :: sc.sn, sc.hs, sc.lf, sc.fr⟩ : Sc) = 0 := phO_none e2
      rw [hr0]
      show (2 * t.tw - (sc.lk + 1)) + 3 * sc.hs.length - phO (⟨sc.lk + 1, s.raw (t.a + sc.lk) :: sc.sn, sc.hs, sc.lf, sc.fr⟩ : Sc) < _
      rw [e8, e3]
      omega
    · have e5 : scLook t sc (s.raw (t.a + sc.lk)) = scPart ⟨sc.lk + 1, s.raw (t.a + sc.lk) :: sc.sn, sc.hs, sc.lf, sc.fr⟩ := by
        unfold scLook
        rw [if_neg hl2]
      have e6 : ∀ x, inB (s.raw (t.a + sc.lk) :: sc.sn) x = nmd s0 t x := fun x => by
        unfold inB nmd
        rw [show 2 * t.tw = sc.lk + 1 by omega]
        exact decide_eq_decide.2 (hsn x)
      have e7 : scPart ⟨sc.lk + 1, s.raw (t.a + sc.lk) :: sc.sn, sc.hs, sc.lf, sc.fr⟩ = ⟨sc.lk + 1, [], l.filter (fun x => !nmd s0 t x), l.filter (nmd s0 t), none⟩ := by
        unfold scPart
        simp only [e1, e3, List.nil_append, e6]
        rw [show inB (s.raw (t.a + sc.lk) :: sc.sn) = nmd s0 t from funext e6]
      rw [e5, e7] at eF hI2
      rw [eF] at key ⊢
      have hfp := filter_part (nmd s0 t) l
      refine key ls T hI2 (Nat.le_succ _) ?_ ?_ (Nat.le_refl _) (fun x hx => by rw [e3]; exact (List.mem_filter.1 hx).1) (fun hh => absurd hh hl2) (fun _ => ⟨rfl, [], rfl⟩)
      · rw [hr0]
        unfold rem
        rw [phO_none rfl]
        simp only
        omega
      · rw [e1, e3] at hLn
        simp only [List.length_nil] at hLn ⊢
        omega
  · obtain ⟨f1, d, f2⟩ := h.fin hl
    cases hs : sc.hs with
    | nil =>
      unfold endS at hne
      rw [hs] at hne
      simp [hl] at hne
    | cons x tl =>
      have hph := phO_first hs
      have hcx := hc x (h.sub x (by rw [hs]; simp))
      have hr0 : rem t sc = 3 * (tl.length + 1) - (prO sc.fr x).ph := by
        unfold rem
        rw [hph, hs]
        simp only [List.length_cons]
        omega
      have hT1 : T ≤ 1000000 := by omega
      rcases hI.free hl hs hT1 with ⟨m', p1, p2, p3, p4, p5⟩ | ⟨p1, p2, p3, p4⟩
      · rw [p3] at p5 key ⊢
        refine key ls (T + 1) p5 (Nat.le_refl _) ?_ hLn (Nat.le_succ _) (fun y hy => hy) (fun hh => absurd hh hl) (fun _ => ⟨f1, d, f2⟩)
        have e8 : phO { sc with fr := some m' } = m'.ph := phO_first (sc := { sc with fr := some m' }) hs
        rw [hr0]
        unfold rem
        rw [e8]
        simp only [hs, List.length_cons]
        omega
      · rw [p2] at p4 key ⊢
        rw [hcx, Nat.add_zero] at p4
        refine key _ (T + 1) p4 (Nat.le_refl _) ?_ ?_ (Nat.le_succ _) (fun y hy => by rw [hs]; exact List.mem_cons_of_mem _ hy) (fun hh => absurd hh hl) (fun _ => ⟨f1, d ++ [x], by rw [f2, hs]; simp⟩)
        · rw [hr0, p1]
          unfold rem
          rw [phO_none rfl]
          simp only
          omega
        · rw [upLs_same]
          rw [hs] at hLn
          simp only [List.length_cons] at hLn ⊢
          omega
theorem ScR.begin {s0 : Ar} (hW : Wx K M s0 (4 * t.wk) cg ls0 live l m0 none T0) : ScR K M t s0 l cg ls0 live m0 T0 s0 ⟨0, [], l, [], none⟩ := by
  have hr : rem t ⟨0, [], l, [], none⟩ = 2 * t.tw + 3 * l.length := by
    unfold rem
    rw [phO_none rfl]
    simp only
    omega
  refine ⟨⟨ls0, T0, ⟨?_, by simp, fun _ => ⟨rfl, rfl⟩⟩, by omega, by simp⟩, fun _ _ => rfl, rfl, rfl, rfl, rfl, fun _ => rfl, rfl, ⟨by simp, by rw [hr]; exact Int.le_refl _⟩, fun _ h => h, fun _ => ⟨rfl, fun v => by simp⟩, fun hh => ⟨?_, [], ?_⟩⟩
  · rw [frO_none rfl]
    exact hW
  · have h0 : t.tw = 0 := by simp at hh; omega
    have : l.filter (nmd s0 t) = [] := List.filter_eq_nil_iff.2 fun x _ => by simp [nmd, h0]
    exact this.symm
  · have h0 : t.tw = 0 := by simp at hh; omega
    have : l.filter (fun x => !nmd s0 t x) = l := List.filter_eq_self.2 fun x _ => by simp [nmd, h0]
    exact this
/-- what the end leaves -/
structure ScE (K M : Nat) (t : Tb) (s0 : Ar) (l : List Int) (cg : Nat) (ls0 : Nat → List Nat) (live : List Int) (T0 : Nat) (s : Ar) : Prop where
  W : ∃ ls T, Wx K M s (4 * t.wk) cg ls live (l.filter (nmd s0 t)) none none T ∧ T ≤ T0 + (2 * t.tw + 3 * l.length) ∧ (ls (4 * t.wk)).length + (l.filter (nmd s0 t)).length = (ls0 (4 * t.wk)).length + l.length
  far : ∀ j, K + M + M < j → s.raw j = s0.raw j
  nr : s.nr = s0.nr
  nw : s.nw = s0.nw
  bad : s.bad = s0.bad
  fresh : s.fresh = s0.fresh
  mem : s0.fresh = false → s.mem = s0.mem
  cC : s.cC = s0.cC
  us : s0.uses + 2 * t.tw ≤ s.uses ∧ s.uses ≤ s0.uses + (2 * t.tw + 3 * l.length)
  dead : ∀ x, x ∈ l → s.st x = if nmd s0 t x then 2 else 0
theorem ScR.end_ (h : ScR K M t s0 l cg ls0 live none T0 s sc) (hw : ∀ x, x ∈ l → s0.st x = 2) (hv : ∀ x, x ∈ live → s0.st x = 1) (he : endS t sc = true) : sc.lf = l.filter (nmd s0 t) ∧ ScE K M t s0 l cg ls0 live T0 s := by
  obtain ⟨ls, T, hI, hTn, hLn⟩ := h.I
  unfold endS at he
  simp only [Bool.and_eq_true, Bool.not_eq_true', decide_eq_false_iff_not] at he
  obtain ⟨hl, he⟩ := he
  have hs : sc.hs = [] := by simpa using he
  obtain ⟨f1, d, f2⟩ := h.fin hl
  have hf : frO sc = none := by
    unfold frO
    rw [hs]
  have hW := hI.W
  rw [hf, hs, List.append_nil, f1] at hW
  rw [hs, f1] at hLn
  obtain ⟨u1, u2⟩ := h.us
  refine ⟨f1, ⟨ls, T, hW, by omega, by simpa using hLn⟩, h.far, h.nr, h.nw, h.bad, h.fresh, h.mem, h.cC, ⟨by omega, by omega⟩, fun x hx => ?_⟩
  cases hn : nmd s0 t x with
  | true =>
    rw [if_pos rfl]
    exact hW.waits (List.mem_filter.2 ⟨hx, hn⟩)
  | false =>
    rw [if_neg (by simp)]
    by_cases e : s.st x = 0
    · exact e
    · rcases hW.known (fun _ _ _ e => by cases e) e with h1 | h1
      · have := hv x h1
        have := hw x hx
        omega
      · have := (List.mem_filter.1 h1).2
        rw [hn] at this
        cases this
/-- a scan by itself goes to its end -/
theorem ScR.goes {s0 : Ar} (hc : ∀ x, x ∈ l → clN x = 0) (hT : TbOk K M t s0) (hT0 : T0 + (2 * t.tw + 3 * l.length) ≤ 900000) (hu : 0 ≤ s0.uses) (hu2 : s0.uses ≤ 1000000000000) (hll : l.length ≤ 10000) :
    Goes K M t (fun n s sc => n = rem t sc ∧ ScR K M t s0 l cg ls0 live none T0 s sc ∧ endS t sc = false) (fun s sc => ScR K M t s0 l cg ls0 live none T0 s sc) := by
  rintro n s sc ⟨rfl, hR, hne⟩
  obtain ⟨h1, h2⟩ := hR.step hc hT hT0 hu hu2 hne
  obtain ⟨ls, T, hI, hTn, hLn⟩ := hR.I
  have hlen : sc.lf.length + sc.hs.length ≤ 10000 := by
    by_cases hl : sc.lk < 2 * t.tw
    · rw [(hI.lo hl).1, (hR.kn hl).1]
      simpa using hll
    · obtain ⟨f1, d, f2⟩ := hR.fin hl
      have hfp := filter_part (nmd s0 t) l
      rw [f2, List.length_append] at hfp
      rw [f1]
      omega
  refine ⟨⟨⟨cg, ls, live, none, T, hI⟩, hT.same hR.nr, hlen, hne⟩, ?_⟩
  cases he : endS t (scF K M t s sc).2 with
  | true => exact .inl ⟨rfl, by omega, h1⟩
  | false => exact .inr ⟨rfl, _, h2, rfl, h1, he⟩
end
end Go.Proofs.YtopnkfbcphbbiaaDoor
namespace Go.Proofs.YtopnkfbcphbbiaaDoor
open Go.RowKit
open H8 (okP sizeF isH)
open A9 (Ar useA Ok9 okB bornS retireS diedS bN zN inS rawA setRawA upN upN_other inR)
open F0 (upO upO_same upO_other upLs upLs_same upLs_other Pu Po)
open S1 (Mc Out Sl Run GotR stepF grN clN PlS nmV nm_cl nm_ne zg)

section
variable {K M T i0 cg : Nat} {s s' : Ar} {ls : Nat → List Nat} {live wt : List Int} {m0 : Option Mc}
theorem run_det {n : Nat} {m : Mc} {s1 : Ar} {o1 : Out} (h : Run K M n s m s1 o1) : ∀ {n2 : Nat} {s2 : Ar} {o2 : Out}, Run K M n2 s m s2 o2 → s1 = s2 ∧ o1 = o2 := by
  induction h with
  | @last s m s' o e h =>
    intro n2 s2 o2 h2
    cases h2 with
    | last e2 h3 =>
      rw [e] at e2
      cases e2
      exact ⟨rfl, rfl⟩
    | more e2 h3 =>
      rw [e] at e2
      cases e2
      exact h.elim
  | @more n s s' s2 m m' o e h ih =>
    intro n2 s3 o2 h2
    cases h2 with
    | last e2 h3 =>
      rw [e] at e2
      cases e2
      exact h3.elim
    | more e2 h3 =>
      rw [e] at e2
      cases e2
      exact ih h3
/-- a run of the worker's machine leaves all else -/
theorem wx_runA {n : Nat} {m : Mc} {s' : Ar} {o : Out} (hr : Run K M n s m s' o) : ∀ {cg : Nat} {ls : Nat → List Nat} {live : List Int} {T : Nat}, Wx K M s i0 cg ls live wt (some m) none T → Ok9 s → T + n ≤ 900000 →
    (∀ j, K + M + M < j → s'.raw j = s.raw j) ∧ s'.nr = s.nr ∧ s'.nw = s.nw ∧ s'.fresh = s.fresh ∧ (s.fresh = false → s'.mem = s.mem) := by
  have one : ∀ (s : Ar) (m : Mc) (cg : Nat) (ls : Nat → List Nat) (live : List Int) (T : Nat), Wx K M s i0 cg ls live wt (some m) none T → (∀ j, K + M + M < j → (stepF K M s m).1.raw j = s.raw j) ∧ (stepF K M s m).1.nr = s.nr ∧ (stepF K M s m).1.nw = s.nw ∧ (stepF K M s m).1.fresh = s.fresh ∧ (s.fresh = false → (stepF K M s m).1.mem = s.mem) := fun s m cg ls live T hW => ⟨fun j hj => hW.farA hj, step_same K M s m⟩
  induction hr with
  | @last s m s' o e h =>
    intro cg ls live T hW hO hT
    have := one s m cg ls live T hW
    rw [e] at this
    exact this
  | @more n s s' s2 m m' o e h ih =>
    intro cg ls live T hW hO hT
    obtain ⟨k1, k2, k3, k4, k5⟩ := one s m cg ls live T hW
    have hO2 : Ok9 (stepF K M s m).1 := by
      obtain ⟨⟨k, hd, lk, gn, cl, own, mc, h1, h2, h3, h4, h5⟩, -⟩ := hW
      refine S1.Ok9.step hO (fun a i n e => ?_) (fun c b e => ?_)
      · subst e
        have := (h1.I.P 0 (by omega) _ h4).2.2.2.1
        omega
      · subst e
        obtain ⟨x1, x2, x3, x4⟩ := h1.gen hO (by omega) (by omega) h4
        rw [h1.I.rw.gns b x3]
        exact x1
    obtain ⟨cg', ls', hW2⟩ := hW.stepA hO (by omega)
    rw [e] at hW2 hO2 k1 k2 k3 k4 k5
    obtain ⟨i1, i2, i3, i4, i5⟩ := ih hW2 hO2 (by omega)
    exact ⟨fun j hj => (i1 j hj).trans (k1 j hj), i2.trans k2, i3.trans k3, i4.trans k4, fun hf => (i5 (k4.trans hf)).trans (k5 hf)⟩
theorem run_cC {n : Nat} {m : Mc} {s' : Ar} {x : Int} (hr : Run K M n s m s' (.got x)) : s'.cC = wrap64 (s.cC + A9.newC s.was (bN x) (zN x)) := by
  generalize ho : Out.got x = o at hr
  induction hr with
  | @last s m s' o e h =>
    subst ho
    have := step_cC K M s m
    rw [e] at this
    exact this
  | @more n s s' s2 m m' o e h ih =>
    have h1 := step_cC K M s m
    have h2 : ∀ p, s'.was p = s.was p := fun p => by
      have := S1.step_was K M s m p
      rw [e] at this
      simp at this
      cases h3 : s.was p <;> cases h4 : s'.was p <;> simp_all
    rw [e] at h1
    rw [ih ho, h1, show s'.was = s.was from funext h2]
/-- one new name -/
theorem wx_askNew (h : Wx K M s i0 cg (fun _ => []) live wt none none T) (hO : Ok9 s) (hT : T ≤ 800000) (hf : 8 * cg + 8 ≤ s.nw) (hK : 4 ≤ K) (hK2 : K ≤ 400) :
    ∃ a s' x, a ≤ K / 4 + 4 ∧ Run K M a s (.pop 0 0 (K / 4 - 1) ⟨0, 0, 0⟩) s' (.got x) ∧ clN x = 0 ∧ x ≠ 0 ∧ s'.cC = wrap64 (s.cC + 8) ∧ Wx K M s' i0 (cg + 1) (fun _ => []) (live ++ [x]) wt none none (T + 2) := by
  have h' := h.ask (c := 0) (i := 0) (n := K / 4 - 1) (by omega) rfl
  obtain ⟨⟨k, hd, lk, gn, cl, own, mc, h1, h2, h3, h4, h5, h6, h7, h8, h9⟩, a4, aK, and⟩ := h'
  obtain ⟨a, s', o, ha, hr, hG⟩ := S1.Sl.runAsk (K / 4 - 1) h1 hO (by omega) (by omega : 0 < k) h4 rfl
  cases hG with
  | old j b r hj he hl hb ok h6 hn => cases hl
  | none he hf2 h6 hn =>
    exfalso
    apply hf2
    show 8 * cg + 8 * 1 ≤ s.nw
    omega
  | new he hf2 ok hS hn =>
    have hcC := run_cC hr
    rw [S1.nm_b ok, S1.zN_nm ok, A9.newC_all (b := false) fun p p1 p2 => by
      have := h1.N.wa p
      cases hw : s.was p with
      | false => rfl
      | true => have := this hw; omega] at hcC
    refine ⟨a, s', _, by omega, hr, nm_cl ok, S1.nm_ne ok, hcC, ⟨k, hd, lk, _, _, _, _, hS, h2, ?_, upO_same _ _ _, fun v hv => ?_, fun v hv => ?_, fun v m x1 x2 x3 => ?_, fun y hy => ?_, h9⟩, a4, aK, and⟩
    · rw [upO_same, h3]
    · rw [upO_other _ _ (by omega)]
      exact h5 v hv
    · rw [upO_other _ _ (by omega)]
      exact h6 v hv
    · rw [upO_other _ _ (by omega)] at x3
      exact h7 v m x1 x2 x3
    · obtain ⟨v, x1, x2, x3⟩ := h8 y hy
      exact ⟨v, x1, x2, by rw [upO_other _ _ (by omega)]; exact x3⟩
end
/-- so many made and retired -/
structure MkI (K M n : Nat) (s : Ar) (i : Nat) (l : List Int) : Prop where
  W : ∀ i0, i0 % 4 = 0 → i0 + 4 ≤ K → Wx K M s i0 i (fun _ => []) [] l none none (3 * i)
  nw : s.nw = 8 * n
  nr : K + M + M + 1 ≤ s.nr
  len : l.length = i
  nm : ∀ x, x ∈ l → clN x = 0 ∧ x ≠ 0
  far : ∀ j, K + M + M < j → s.raw j = 0
  bad : s.bad = false
  fresh : s.fresh = false
  us : 0 ≤ s.uses ∧ s.uses ≤ 200 * i
  cC : s.cC = 8 * i
section
variable {K M n i : Nat} {s s' : Ar} {l : List Int}
theorem MkI.step (h : MkI K M n s i l) (hO : Ok9 s) (hi : i < n) (hn : n ≤ 1000) (hK : 4 ≤ K) (hK2 : K ≤ 400) :
    ∃ a s' x, a ≤ 200 ∧ Run K M a s (.pop 0 0 (K / 4 - 1) ⟨0, 0, 0⟩) s' (.got x) ∧ S1.Inv K M s (.pop 0 0 (K / 4 - 1) ⟨0, 0, 0⟩) (3 * i) ∧ x ≠ 0 ∧ s'.st x = 1 ∧ s'.nr = s.nr ∧ MkI K M n (retireS s' x) (i + 1) (l ++ [x]) := by
  have hW := h.W 0 rfl (by omega)
  have hnw := h.nw
  obtain ⟨a, s', x, ha, hr, hc, hx, hcC, -⟩ := wx_askNew hW hO (by omega) (by omega) hK hK2
  have hfar := wx_runA hr (hW.ask (c := 0) (i := 0) (n := K / 4 - 1) (by omega) rfl) hO (by omega)
  obtain ⟨r1, r2, r3, r4, r5⟩ := hfar
  have hone : ∀ i0, i0 % 4 = 0 → i0 + 4 ≤ K → Wx K M s' i0 (i + 1) (fun _ => []) ([] ++ [x]) l none none (3 * i + 2) := fun i0 e1 e2 => by
    obtain ⟨a', s2, x2, -, hr2, -, -, -, hW2⟩ := wx_askNew (h.W i0 e1 e2) hO (by omega) (by omega) hK hK2
    obtain ⟨e3, e4⟩ := run_det hr hr2
    cases e4
    rw [e3]
    exact hW2
  have hst := (hone 0 rfl (by omega)).lives (a := x) (by simp)
  have hus := hr.us
  obtain ⟨u1, u2⟩ := h.us
  have hus2 : s'.uses = s.uses + a := by
    rw [hus]
    exact A9.wr64_id (by omega) (by omega)
  refine ⟨a, s', x, by omega, hr, (hW.ask (c := 0) (i := 0) (n := K / 4 - 1) (by omega) rfl).invA (Nat.le_refl _), hx, hst, r2, ⟨fun i0 e1 e2 => ?_, r3.trans hnw, ?_, ?_, fun y hy => ?_, fun j hj => (r1 j hj).trans (h.far j hj), hr.bad.trans h.bad, r4.trans h.fresh, ⟨?_, ?_⟩, ?_⟩⟩
  · have := (Wx.retire (l1 := []) (l2 := []) (hone i0 e1 e2) (by omega)).wide (show 3 * i + 2 ≤ 3 * (i + 1) by omega)
    exact this
  · show K + M + M + 1 ≤ s'.nr
    rw [r2]
    exact h.nr
  · rw [List.length_append, h.len]
    rfl
  · rcases List.mem_append.1 hy with hy | hy
    · exact h.nm y hy
    · simp only [List.mem_singleton] at hy
      subst hy
      exact ⟨hc, hx⟩
  · show 0 ≤ s'.uses
    omega
  · show s'.uses ≤ _
    omega
  · show s'.cC = _
    rw [hcC, h.cC, A9.wr64_id (by omega) (by omega)]
    omega
end
theorem MkI.new {K M n : Nat} (r : Int) (hr : K + M + M + 1 ≤ (A9.new9 r ((8 * n : Nat) : Int) false).nr) (hb : K + M + M + 1 ≤ 65536) (hn : n ≤ 1000) (hM : M ≤ 8192) (hnM : n ≤ M) (hK : K % 4 = 0) : MkI K M n (A9.new9 r ((8 * n : Nat) : Int) false) 0 [] := by
  have hnw : (A9.new9 r ((8 * n : Nat) : Int) false).nw = 8 * n := S1.cut_id (by omega)
  exact ⟨fun i0 e1 e2 => Wx.new K M i0 r _ hr hb (by rw [hnw]; omega) hM hK e1 e2, hnw, hr, rfl, fun x hx => by simp at hx, fun _ _ => rfl, rfl, rfl, ⟨Int.le_refl _, by show (0 : Int) ≤ _; simp⟩, rfl⟩
end Go.Proofs.YtopnkfbcphbbiaaDoor
