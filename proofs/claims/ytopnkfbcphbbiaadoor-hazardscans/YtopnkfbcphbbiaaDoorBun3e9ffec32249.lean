/-
  Helpers: S1Sh, Zc, S1Si.
-/
import Derived.Test.YtopnkfbcphbbiaaDoorBun5cc90ed59f1c
import Derived.Test.YtopnkfbcphbbiaaDoorBun2ab08a79ebad
namespace Go.Proofs.YtopnkfbcphbbiaaDoor.S1
open Go.RowKit
open H8 (okP sizeF HTab below_then packV packF)
open A9 (Ab ArAt ArMem FrA Ar rawA setRawA swapRawA addRawA useA Left9 ptrA Ok9 okB bornS bornA diedA diedS)
open F0 (Pl5 Tn PuAt PoAt FrS noT puStep poStep TuPost ToPost PuStep_any PoStep_any Base_any baseF headF NewPop_any NewPush_any NewPoPost NewPuPost plBox plS plS_of below_next Wk puB poB noT_new Pu Po PuOk PoOk PlK headF_eq linkF linkF_eq unmF unmF_eq trnF codF tagF mkF cod_bd RwL headS linkS po_read po_link po_swap pu_read pu_link pu_swap upO upO_same upO_other)

/-- where raw words stand: K heads, M links, M gens, the last word -/
structure PlS (K M : Nat) (p : Pl5) : Prop where
  wk : 4 * p.wk = (K : Int)
  hd : p.hd = 0
  ln : p.ln = (K : Int)
  gn : p.gn = (K : Int) + M
  cv : p.cv = ((K + M + M : Nat) : Int)
  four : 4 ≤ K
  most : K ≤ 400
theorem PlS.k {K M : Nat} {p : Pl5} (h : PlS K M p) : PlK K p := ⟨h.hd, h.ln⟩
def PoW (i : Nat) (m : Po) (t : Tn) : Prop := t.word = (i : Int) ∧ t.ph = (m.ph : Int) ∧ (m.ph = 1 ∨ m.ph = 2 → t.h = m.h) ∧ (m.ph = 2 → t.m = m.nx)
def PuW (i : Nat) (m : Pu) (t : Tn) : Prop := t.word = (i : Int) ∧ t.ph = (m.ph : Int) ∧ (m.ph = 1 ∨ m.ph = 2 → t.h = m.h) ∧ (m.ph = 2 → t.m = (m.b : Int) + 1)
/-- an alloc's box is the machine -/
def AlR : Mc → Al → Tn → Prop
  | .free _ _ _, _, _ => False
  | .pop c i n m, a, t => a.nx = 0 ∧ a.hn = 0 ∧ a.cl = (c : Int) ∧ a.rs = (n : Int) ∧ a.wk = ((i / 4 : Nat) : Int) ∧ PoW i m t ∧ n ≤ 1000
  | .look c, a, _ => a.nx = 1 ∧ a.hn = 0 ∧ a.cl = (c : Int)
  | .carve c v, a, _ => a.nx = 2 ∧ a.hn = 0 ∧ a.cl = (c : Int) ∧ a.bs = v ∧ 0 ≤ v
  | .gen c b, a, _ => a.nx = 3 ∧ a.hn = 0 ∧ a.cl = (c : Int) ∧ a.bs = 8 * (b : Int)
def FeR : Mc → Fe → Int → Tn → Prop
  | .free h i m, f, b, t => f.h = h ∧ f.en = false ∧ b = (m.b : Int) + 1 ∧ PuW i m t
  | _, _, _, _ => False
def endB : Out → Bool
  | .go _ => false
  | _ => true
def outR : Out → Al → Tn → Prop
  | .go m, a, t => AlR m a t
  | .freed, _, _ => False
  | .refused, a, _ => a.nx = 4 ∧ a.hn = 0
  | .got h, a, _ => a.nx = 4 ∧ a.hn = h
def outF : Out → Fe → Int → Tn → Prop
  | .go m, f, b, t => FeR m f b t
  | .freed, f, _, _ => f.en = true
  | _, _, _, _ => False
def StPost (B : Ab) (q : Nat) (w : World) (p : Pl5) (x : Nat) (r : Ar × Out) (e : Ending) (w' : World) : Prop := ∃ a' t', SrPost B q w p x (.bool (endB r.2)) r.1 a' t' e w' ∧ outR r.2 a' t'
def SfPost (B : Ab) (q : Nat) (w : World) (p : Pl5) (y : Nat) (b : Int) (r : Ar × Out) (e : Ending) (w' : World) : Prop := ∃ f' t', FePost B q w p (.bool (endB r.2)) r.1 f' b t' e w' ∧ f'.y = y ∧ outF r.2 f' b t'
/-- all that holds of a machine under way -/
def Inv (K M : Nat) (s : Ar) (m : Mc) (N : Nat) : Prop := ∃ k hd lk gn cg cl ls own mc T v, Sl K M k s hd lk gn cg cl ls own mc T ∧ v < k ∧ mc v = some m ∧ T ≤ N
theorem Inv.step {K M N : Nat} {s s' : Ar} {m m' : Mc} (h : Inv K M s m N) (hO : Ok9 s) (hN : N ≤ 1000000) (e : stepF K M s m = (s', .go m')) : Inv K M s' m' (N + 1) := by
  obtain ⟨k, hd, lk, gn, cg, cl, ls, own, mc, T, v, hS, hv, hm, hT⟩ := h
  obtain ⟨hd', lk', gn', cg', cl', ls', h2⟩ := hS.step hO (by omega) hv hm
  rw [e] at h2
  exact ⟨k, hd', lk', gn', cg', cl', ls', own, upO mc v (some m'), T + 1, v, h2, hv, upO_same _ _ _, by omega⟩
/-- a name is one of a slot -/
theorem Inv.nw {K M N : Nat} {s : Ar} {m : Mc} (h : Inv K M s m N) : s.nw ≤ 8 * M ∧ M ≤ 8192 ∧ K + M + M + 1 ≤ 65536 := by
  obtain ⟨k, hd, lk, gn, cg, cl, ls, own, mc, T, v, hS, -⟩ := h
  exact ⟨hS.I.grs, hS.I.M8, hS.I.rw.big2⟩
theorem next_list {k n c : Nat} (hk : k < n) (hc : c < 4) : (4 * k + c + 4) % (4 * n) = 4 * ((k + 1) % n) + c := by
  by_cases e : k + 1 = n
  · subst e
    rw [Nat.mod_self, show 4 * k + c + 4 = c + 4 * (k + 1) by omega, Nat.add_mod_right, Nat.mod_eq_of_lt (by omega)]
    omega
  · rw [Nat.mod_eq_of_lt (show k + 1 < n by omega), Nat.mod_eq_of_lt (by omega)]
    omega
section
variable {B : Ab} {q : Nat} {w w' : World} {p : Pl5} {a : Al} {t t' : Tn} {s s' : Ar} {K M N : Nat}
set_option maxHeartbeats 1000000 in
theorem alStep (hA : ArAt B w s) (hM : AlM B q w p a t) {m : Mc} (hR : AlR m a t) (hp : PlS K M p) (hI : Inv K M s m N) (hN : N ≤ 900000) :
    Calls Tryd.prog 25 #[.pointer (some ⟨q, 0, none⟩), ptrA B] w (StPost B q w p a.x (stepF K M s m)) := by
  obtain ⟨k, hd, lk, gn, cg, cl, ls, own, mc, T, v, hS, hv, hm, hT⟩ := hI
  have hRw := hS.I.rw
  have hL := hRw.toRwL
  have hP := hS.I.P v hv m hm
  have hM8 := hS.I.M8
  obtain ⟨n0, hn0⟩ : ∃ n0 : Nat, K = 4 * n0 := ⟨K / 4, by have := hS.I.K4; omega⟩
  have hpw : p.wk = (n0 : Int) := by have := hp.wk; omega
  have hK4 := hp.most
  cases m with
  | free h i m => exact hR.elim
  | pop c i n m =>
    obtain ⟨r1, r2, r3, r4, r5, r6, r7⟩ := hR
    obtain ⟨hi, hic, o1, o2, o3⟩ := hP
    obtain ⟨word, ph, hh, mk⟩ := t
    obtain ⟨e1, e2, e3, e4⟩ := r6
    simp only at e1 e2 e3 e4
    subst e1 e2
    have hraw := hL.hds i hi
    have hkn : i / 4 < n0 := by omega
    rcases (by omega : m.ph = 0 ∨ m.ph = 1 ∨ m.ph = 2) with h0 | h1 | h2
    · have ep := po_read (p := p) hL hi mk hh
      have et : (⟨(i : Int), (m.ph : Int), hh, mk⟩ : Tn) = ⟨i, 0, hh, mk⟩ := by rw [h0]; rfl
      rw [et] at hM
      unfold stepF
      dsimp only
      rw [if_pos h0, hraw]
      by_cases hc : codF (hd i) = 0
      · rw [if_pos hc] at ep ⊢
        have hb : baseF (⟨(i : Int), 3, hd i, mk⟩ : Tn) = (0, false) := by
          unfold baseF
          rw [if_neg (by simp [hc])]
        cases n with
        | zero =>
          have hs := aSearch_none hA hM (.inl rfl) (by rw [ep]) (by rw [ep, hb]) (by rw [r4]; rfl)
          rw [ep] at hs
          refine (aStep0 hM r1 hs).mono ?_
          rintro e w2 ⟨a', t', h5, rfl, rfl⟩
          exact ⟨_, _, h5, rfl, r2, r3⟩
        | succ n =>
          have hs := aSearch_next (r := n) (k := i / 4) (n := n0) hA hM (.inl rfl) (by rw [ep]) (by rw [ep, hb]) (by rw [r4]) r5 hpw hkn (by omega) (by omega)
          rw [ep] at hs
          refine (aStep0 hM r1 hs).mono ?_
          have hnl := next_list (c := c) hkn (by omega)
          rw [show 4 * (i / 4) + c = i by omega, ← hn0] at hnl
          rintro e w2 ⟨a', t', h5, ⟨x', rfl⟩, rfl⟩
          have hlt : (i / 4 + 1) % n0 < n0 := Nat.mod_lt _ (by omega)
          refine ⟨_, _, h5, rfl, r2, r3, rfl, ?_, ⟨?_, rfl, fun x => ?_, fun x => ?_⟩, by omega⟩
          · show (((i / 4 + 1) % n0 : Nat) : Int) = (((i + 4) % K / 4 : Nat) : Int)
            omega
          · show headF p (((i / 4 + 1) % n0 : Nat) : Int) a.cl = (((i + 4) % K : Nat) : Int)
            rw [r3, headF_eq hp.k (by omega) (by omega) (by omega) (by omega)]
            omega
          · simp at x
          · simp at x
      · rw [if_neg hc] at ep ⊢
        have hs := aSearch_go hA hM (.inl rfl) (by rw [ep])
        rw [ep] at hs
        refine (aStep0 hM r1 hs).mono ?_
        rintro e w2 ⟨a', t', h5, rfl, rfl⟩
        exact ⟨_, _, h5, rfl, r2, r3, r4, r5, ⟨rfl, rfl, fun _ => rfl, fun x => by simp at x⟩, r7⟩
    · have eh := e3 (.inl h1)
      subst eh
      have hb := o1 (.inl h1)
      have hcb := cod_bd m.h
      have hbM : (codF m.h - 1).toNat < M := by omega
      have ep := po_link (p := p) (k := i) hL hp.k hbM mk m.h (by omega)
      have et : (⟨(i : Int), (m.ph : Int), m.h, mk⟩ : Tn) = ⟨i, 1, m.h, mk⟩ := by rw [h1]; rfl
      rw [et] at hM
      unfold stepF
      dsimp only
      rw [if_neg (by omega), if_pos h1, hL.lks _ hbM]
      have hs := aSearch_go hA hM (.inr (.inl rfl)) (by rw [ep])
      rw [ep] at hs
      refine (aStep0 hM r1 hs).mono ?_
      rintro e w2 ⟨a', t', h5, rfl, rfl⟩
      exact ⟨_, _, h5, rfl, r2, r3, r4, r5, ⟨rfl, rfl, fun _ => rfl, fun _ => rfl⟩, r7⟩
    · have eh := e3 (.inr h2)
      have em := e4 h2
      subst eh em
      have hcn := (o1 (.inr h2)).2.1
      have hcb := cod_bd m.h
      have ep := po_swap (p := p) hL hi m.nx m.h
      have et : (⟨(i : Int), (m.ph : Int), m.h, m.nx⟩ : Tn) = ⟨i, 2, m.h, m.nx⟩ := by rw [h2]; rfl
      rw [et] at hM
      unfold stepF
      dsimp only
      rw [if_neg (by omega), if_neg (by omega), hraw]
      by_cases he : hd i = m.h
      · rw [if_pos he] at ep ⊢
        have hb : baseF (⟨(i : Int), 3, m.h, m.nx⟩ : Tn) = (8 * ((codF m.h - 1).toNat : Int), true) := by
          unfold baseF
          rw [if_pos ⟨rfl, hcn⟩, unmF_eq (by simp only; omega) (by simp only; omega)]
          simp only
          rw [show codF m.h - 1 = (((codF m.h - 1).toNat : Nat) : Int) by omega]
          simp
        have hs := aSearch_has hA hM (.inr (.inr (.inl rfl))) (by rw [ep]) (by rw [ep, hb])
        rw [ep, hb] at hs
        refine (aStep0 hM r1 hs).mono ?_
        rintro e w2 ⟨a', t', h5, rfl, rfl⟩
        exact ⟨_, _, h5, rfl, r2, r3, rfl⟩
      · rw [if_neg he] at ep ⊢
        have hs := aSearch_go hA hM (.inr (.inr (.inl rfl))) (by rw [ep])
        rw [ep] at hs
        refine (aStep0 hM r1 hs).mono ?_
        rintro e w2 ⟨a', t', h5, rfl, rfl⟩
        exact ⟨_, _, h5, rfl, r2, r3, r4, r5, ⟨rfl, rfl, fun x => by simp at x, fun x => by simp at x⟩, r7⟩
  | look c =>
    obtain ⟨r1, r2, r3⟩ := hR
    have hc4 : c < 4 := hP
    have hs := aMeas_any hA hM (by rw [r3]; omega) hA.ok.most.1
    rw [hp.cv, rawA_cv hRw, r3, size_zg hc4] at hs
    refine (aStep1 hM r1 hs).mono ?_
    rintro e w2 ⟨a', t', h5, rfl, rfl⟩
    unfold stepF
    simp only [hRw.cvr]
    simp only at h5
    have hnw : (useA s).nw = s.nw := rfl
    rw [hnw] at h5
    by_cases ht : 8 * (cg : Int) + 8 * (zg c : Int) ≤ s.nw
    · rw [if_pos ht]
      rw [if_neg (by omega)] at h5
      exact ⟨_, _, h5, rfl, r2, rfl, rfl, by omega⟩
    · rw [if_neg ht]
      rw [if_pos (by omega)] at h5
      exact ⟨_, _, h5, rfl, r2⟩
  | carve c v' =>
    obtain ⟨r1, r2, r3, r4, r5⟩ := hR
    obtain ⟨hc4, hroom⟩ := hP
    have hz := zg_bd hc4
    have hmost := hA.ok.most.1
    have hs := aCarve_any hA hM (by rw [r3]; omega) (by rw [r4]; omega)
    rw [hp.cv, r3, size_zg hc4, r4, swap_cv hRw] at hs
    unfold stepF
    simp only [hRw.cvr]
    by_cases he : 8 * (cg : Int) = v'
    · rw [if_pos he] at hs ⊢
      simp only [if_true] at hs
      refine (aStep2 hM r1 hs).mono ?_
      rintro e w2 ⟨a', t', h5, rfl, rfl⟩
      exact ⟨_, _, h5, rfl, r2, r3, by simp only; rw [r4]; omega⟩
    · rw [if_neg he] at hs ⊢
      refine (aStep2 hM r1 hs).mono ?_
      rintro e w2 ⟨a', t', h5, rfl, rfl⟩
      exact ⟨_, _, h5, rfl, r2, r3⟩
  | gen c b =>
    obtain ⟨r1, r2, r3, r4⟩ := hR
    obtain ⟨g1, g2, hb, -⟩ := hS.gen hA.ok (by omega) hv hm
    obtain ⟨x1, x2, -⟩ := hS.I.gn0 b hb
    have hr := addRaw_gen hRw hb 1
    rw [A9.wr64_id (by omega) (by omega)] at hr
    have hbn : bornA (genS K M s b (gn b + 1)) (packV (8 * (b : Int)) (gn b + 1) c) = (bornS (genS K M s b (gn b + 1)) (packV (8 * (b : Int)) (gn b + 1) c), true) := by
      unfold bornA
      exact if_pos g1
    have hpg := hp.gn
    have hs := aName_any (b := b) (c := (c : Int)) (g := gn b) hA hM r3 r4 (by omega) (by rw [hpg]; omega) (by rw [hpg, show (K : Int) + M + (b : Int) = ((K + M + b : Nat) : Int) by omega]; exact hr) (by omega) g2 hbn
    unfold stepF
    simp only [hRw.gns b hb]
    refine (aStep3 hM r1 hs).mono ?_
    rintro e w2 ⟨a', t', h5, rfl, rfl⟩
    exact ⟨_, _, h5, rfl, rfl⟩
/-- a free's step -/
theorem feStep {f : Fe} {b : Int} (hA : ArAt B w s) (hM : FeM B q w p f b t) {m : Mc} (hR : FeR m f b t) (hp : PlS K M p) (hI : Inv K M s m N) :
    Calls Tryd.prog 54 #[.pointer (some ⟨q, 0, none⟩), ptrA B] w (SfPost B q w p f.y b (stepF K M s m)) := by
  obtain ⟨k, hd, lk, gn, cg, cl, ls, own, mc, T, v, hS, hv, hm, hT⟩ := hI
  have hRw := hS.I.rw
  have hL := hRw.toRwL
  have hP := hS.I.P v hv m hm
  have hM8 := hS.I.M8
  cases m with
  | pop c i n m => exact hR.elim
  | look c => exact hR.elim
  | carve c v => exact hR.elim
  | gen c b => exact hR.elim
  | free h i m =>
    obtain ⟨r1, r2, r3, r6⟩ := hR
    subst r3
    obtain ⟨hi, hic, hbg, hst, o1, o2, o3, o4⟩ := hP
    obtain ⟨word, ph, hh, mk⟩ := t
    obtain ⟨e1, e2, e3, e4⟩ := r6
    simp only at e1 e2 e3 e4
    subst e1 e2
    have hraw := hL.hds i hi
    rcases (by omega : m.ph = 0 ∨ m.ph = 1 ∨ m.ph = 2) with h0 | h1 | h2
    · have ep := pu_read (p := p) hL hi mk hh ((m.b : Int) + 1)
      have et : (⟨(i : Int), (m.ph : Int), hh, mk⟩ : Tn) = ⟨i, 0, hh, mk⟩ := by rw [h0]; rfl
      rw [et] at hM
      unfold stepF
      dsimp only
      rw [if_pos h0, hraw]
      have hs := feStep_go hA hM r2 (.inl rfl) (by rw [ep])
      rw [ep] at hs
      exact hs.mono fun e w2 h5 => ⟨f, _, h5, rfl, r1, r2, rfl, rfl, rfl, fun _ => rfl, fun x => by simp at x⟩
    · have eh := e3 (.inl h1)
      subst eh
      have ep := pu_link (p := p) (k := i) hL hp.k o1 mk m.h
      have et : (⟨(i : Int), (m.ph : Int), m.h, mk⟩ : Tn) = ⟨i, 1, m.h, mk⟩ := by rw [h1]; rfl
      rw [et] at hM
      unfold stepF
      dsimp only
      rw [if_neg (by omega), if_pos h1]
      have hs := feStep_go hA hM r2 (.inr (.inl rfl)) (by rw [ep])
      rw [ep] at hs
      exact hs.mono fun e w2 h5 => ⟨f, _, h5, rfl, r1, r2, rfl, rfl, rfl, fun _ => rfl, fun _ => rfl⟩
    · have eh := e3 (.inr h2)
      have em := e4 h2
      subst eh em
      have ep := pu_swap (p := p) hL hi ((m.b : Int) + 1) m.h ((m.b : Int) + 1)
      have et : (⟨(i : Int), (m.ph : Int), m.h, (m.b : Int) + 1⟩ : Tn) = ⟨i, 2, m.h, (m.b : Int) + 1⟩ := by rw [h2]; rfl
      rw [et] at hM
      unfold stepF
      dsimp only
      rw [if_neg (by omega), if_neg (by omega), hraw]
      by_cases he : hd i = m.h
      · rw [if_pos he] at ep ⊢
        have hs := feStep_end hA hM r2 (.inr (.inr (.inl rfl))) (by rw [ep])
        rw [ep, r1] at hs
        have hdi : diedA (headS s i (trnF m.h ((m.b : Int) + 1))) h = (diedS (headS s i (trnF m.h ((m.b : Int) + 1))) h, true) := if_pos hst
        simp only [hdi] at hs
        exact hs.mono fun e w2 h5 => ⟨_, _, h5, rfl, rfl⟩
      · rw [if_neg he] at ep ⊢
        have hs := feStep_go hA hM r2 (.inr (.inr (.inl rfl))) (by rw [ep])
        rw [ep] at hs
        exact hs.mono fun e w2 h5 => ⟨f, _, h5, rfl, r1, r2, rfl, rfl, rfl, fun x => by simp at x, fun x => by simp at x⟩
end
end Go.Proofs.YtopnkfbcphbbiaaDoor.S1
namespace Go.Proofs.YtopnkfbcphbbiaaDoor
open Go.RowKit
open H8 (okP sizeF isH)
open A9 (Ar useA Ok9 okB bornS retireS diedS bN zN inS zN_bd rawA setRawA swapRawA addRawA bornA diedA upN upN_other inR)
open F0 (upO upO_same upO_other upH upL upLs upLs_same upLs_other headS linkS Pu Po sumN sumN_up sumN_ge tagF codF mkF trnF trnF_eq)
open S1 (RwS SxI SxC Sl Mc McOk Out stepF endO endM grN clN zg mcC mcC_free ownC ownC_app ownC_cons szO szO_app szF HSl nmV nextM)

section
variable {K M k T v : Nat} {s : Ar} {hd lk gn : Nat → Int} {cg : Nat} {cl : Nat → Option Nat} {ls : Nat → List Nat} {own : Nat → List Int} {mc : Nat → Option Mc}
/-- one actor more, who has nothing -/
theorem sl_grow (h : Sl K M k s hd lk gn cg cl ls own mc T) (h1 : own k = []) (h2 : mc k = none) : Sl K M (k + 1) s hd lk gn cg cl ls own mc T := by
  obtain ⟨hI, hN⟩ := h
  have e1 : sumN (fun w => ownC (own w) 0 + mcC (mc w) 0) (k + 1) = sumN (fun w => ownC (own w) 0 + mcC (mc w) 0) k + (ownC (own k) 0 + mcC (mc k) 0) := rfl
  refine ⟨⟨hI.rw, hI.cap, hI.grs, hI.M8, hI.K4, hI.L, hI.tg, hI.cls, hI.slot, hI.apart, hI.gn0, fun w hw m hm => ?_, fun w hw x hx => ?_, fun x hx => ?_, fun x => ?_⟩, ⟨?_, ?_, ?_, hN.cC, hN.wa⟩⟩
  · by_cases e : w = k
    · subst e
      rw [h2] at hm
      cases hm
    · exact hI.P w (by omega) m hm
  · by_cases e : w = k
    · subst e
      rw [h1] at hx
      simp at hx
    · exact hI.live w (by omega) x hx
  · obtain ⟨a, b⟩ := hI.seen x hx
    refine ⟨a, ?_⟩
    rcases b with ⟨w, hw, b⟩ | ⟨w, i, m, hw, b⟩
    · exact .inl ⟨w, by omega, b⟩
    · exact .inr ⟨w, i, m, by omega, b⟩
  · have := hI.C x
    show _ + (sumN (fun w => ownC (own w) x + mcC (mc w) x) k + (ownC (own k) x + mcC (mc k) x)) = _
    rw [h1, h2]
    exact this
  · show s.cL = ((sumN (fun w => szO (own w)) k + szO (own k) : Nat) : Int)
    rw [h1]
    exact hN.cL
  · show s.cR = ((sumN (fun w => szF (mc w)) k + szF (mc k) : Nat) : Int)
    rw [h2]
    exact hN.cR
  · show (sumN (fun w => szO (own w)) k + szO (own k)) + (sumN (fun w => szF (mc w)) k + szF (mc k)) ≤ _
    rw [h1, h2]
    exact hN.bd
/-- two machines that free one name are one -/
theorem sl_one (h : Sl K M k s hd lk gn cg cl ls own mc T) {u : Nat} (hv : v < k) (hu : u < k) {a : Int} {i j : Nat} {m n : Pu} (h1 : mc v = some (.free a i m)) (h2 : mc u = some (.free a j n)) : u = v := by
  have a1 := h.I.P v hv _ h1
  have a2 := h.I.P u hu _ h2
  have h3 := h.I.mine hv (x := grN a) (by rw [h1, mcC_free, if_pos a1.2.2.1]; omega)
  by_cases e : u = v
  · exact e
  · have h4 := (h3.2.2.1 u hu e).2
    rw [h2, mcC_free, if_pos a2.2.2.1] at h4
    omega
end
/-- how far the free of one is -/
def pmF (fr : Option (Int × Pu)) (h : Int) : Pu := match fr with
  | some (a, m) => if h = a then m else ⟨grN h, 0, 0⟩
  | none => ⟨grN h, 0, 0⟩
theorem pm_none (h : Int) : pmF none h = ⟨grN h, 0, 0⟩ := rfl
theorem pm_same (h : Int) (m : Pu) : pmF (some (h, m)) h = m := if_pos rfl
theorem pm_other {a h : Int} (m : Pu) (e : h ≠ a) : pmF (some (a, m)) h = ⟨grN h, 0, 0⟩ := if_neg e
theorem pm_was {fr : Option (Int × Pu)} {a h : Int} (hf : fr = none ∨ ∃ m, fr = some (a, m)) (e : h ≠ a) : pmF fr h = ⟨grN h, 0, 0⟩ := by
  rcases hf with rfl | ⟨m, rfl⟩
  · rfl
  · exact pm_other m e
/-- one worker with slots and a machine, names that wait, one of them perhaps on its way -/
structure Wx (K M : Nat) (s : Ar) (i0 cg : Nat) (ls : Nat → List Nat) (live wt : List Int) (m0 : Option Mc) (fr : Option (Int × Pu)) (T : Nat) : Prop where
  ex : ∃ k hd lk gn cl own mc, Sl K M k s hd lk gn cg cl ls own mc T ∧ 1 ≤ k ∧ own 0 = live ∧ mc 0 = m0 ∧ (∀ v, 1 ≤ v → own v = []) ∧ (∀ v, k ≤ v → mc v = none) ∧
    (∀ v m, 1 ≤ v → v < k → mc v = some m → ∃ h ∈ wt, m = .free h (i0 + clN h) (pmF fr h)) ∧ (∀ h ∈ wt, ∃ v, 1 ≤ v ∧ v < k ∧ mc v = some (.free h (i0 + clN h) (pmF fr h))) ∧
    (∀ h m, fr = some (h, m) → (m.ph = 1 ∨ m.ph = 2) ∧ m.h = hd (i0 + clN h))
  i4 : i0 % 4 = 0
  iK : i0 + 4 ≤ K
  nd : wt.Nodup
section
variable {K M T i0 cg : Nat} {s s' : Ar} {ls : Nat → List Nat} {live wt : List Int} {m0 : Option Mc} {fr : Option (Int × Pu)}
theorem Wx.wide (h : Wx K M s i0 cg ls live wt m0 fr T) {T' : Nat} (hT : T ≤ T') : Wx K M s i0 cg ls live wt m0 fr T' := by
  obtain ⟨⟨k, hd, lk, gn, cl, own, mc, h1, h2⟩, a, b, c⟩ := h
  exact ⟨⟨k, hd, lk, gn, cl, own, mc, h1.wide hT, h2⟩, a, b, c⟩
theorem Wx.perm (h : Wx K M s i0 cg ls live wt m0 fr T) {l : List Int} (hn : l.Nodup) (hl : ∀ x, x ∈ l ↔ x ∈ wt) : Wx K M s i0 cg ls live l m0 fr T := by
  obtain ⟨⟨k, hd, lk, gn, cl, own, mc, h1, h2, h3, h4, h5, h6, h7, h8, h9⟩, a, b, c⟩ := h
  exact ⟨⟨k, hd, lk, gn, cl, own, mc, h1, h2, h3, h4, h5, h6, fun v m x1 x2 x3 => by
    obtain ⟨y, y1, y2⟩ := h7 v m x1 x2 x3
    exact ⟨y, (hl y).2 y1, y2⟩, fun y hy => h8 y ((hl y).1 hy), h9⟩, a, b, hn⟩
theorem Wx.far (h : Wx K M s i0 cg ls live wt m0 fr T) (e1 : ∀ j, j ≤ K + M + M → s'.raw j = s.raw j) (e2 : s'.nr = s.nr) (e3 : s'.nw = s.nw) (e4 : s'.st = s.st) (e5 : s'.gen = s.gen) (e6 : s'.cL = s.cL) (e7 : s'.cR = s.cR) (e8 : s'.cC = s.cC) (e9 : s'.was = s.was) : Wx K M s' i0 cg ls live wt m0 fr T := by
  obtain ⟨⟨k, hd, lk, gn, cl, own, mc, h1, h2⟩, a, b, c⟩ := h
  exact ⟨⟨k, hd, lk, gn, cl, own, mc, sl_far h1 e1 e2 e3 e4 e5 e6 e7 e8 e9, h2⟩, a, b, c⟩
theorem Wx.use (h : Wx K M s i0 cg ls live wt m0 fr T) : Wx K M (useA s) i0 cg ls live wt m0 fr T := h.far (fun _ _ => rfl) rfl rfl rfl rfl rfl rfl rfl rfl
theorem Wx.word (h : Wx K M s i0 cg ls live wt m0 fr T) {j : Nat} (hj : K + M + M < j) (hr : (j : Int) < s.nr) (x : Int) : Wx K M (setRawA s j x) i0 cg ls live wt m0 fr T := by
  obtain ⟨⟨k, hd, lk, gn, cl, own, mc, h1, h2⟩, a, b, c⟩ := h
  exact ⟨⟨k, hd, lk, gn, cl, own, mc, sl_word h1 hj hr x, h2⟩, a, b, c⟩
theorem Wx.lives (h : Wx K M s i0 cg ls live wt m0 fr T) {a : Int} (ha : a ∈ live) : s.st a = 1 := by
  obtain ⟨⟨k, hd, lk, gn, cl, own, mc, h1, h2, h3, -⟩, -⟩ := h
  exact h1.I.live 0 (by omega) a (by rw [h3]; exact ha)
theorem Wx.waits (h : Wx K M s i0 cg ls live wt m0 fr T) {a : Int} (ha : a ∈ wt) : s.st a = 2 := by
  obtain ⟨⟨k, hd, lk, gn, cl, own, mc, h1, h2, h3, h4, h5, h6, h7, h8, h9⟩, -⟩ := h
  obtain ⟨v, x1, x2, x3⟩ := h8 a ha
  exact (h1.I.P v x2 _ x3).2.2.2.1
/-- what is not dead is the worker's, or waits -/
theorem Wx.known (h : Wx K M s i0 cg ls live wt m0 fr T) (hm : ∀ a i n, m0 ≠ some (.free a i n)) {a : Int} (ha : s.st a ≠ 0) : a ∈ live ∨ a ∈ wt := by
  obtain ⟨⟨k, hd, lk, gn, cl, own, mc, h1, h2, h3, h4, h5, h6, h7, h8, h9⟩, -⟩ := h
  rcases (h1.I.seen a ha).2 with ⟨w, hw, b⟩ | ⟨w, i, m, hw, b⟩
  · by_cases e : w = 0
    · subst e
      rw [h3] at b
      exact .inl b
    · rw [h5 w (by omega)] at b
      simp at b
  · by_cases e : w = 0
    · subst e
      rw [h4] at b
      exact absurd b (hm _ _ _)
    · obtain ⟨y, y1, y2⟩ := h7 w _ (by omega) hw b
      cases y2
      exact .inr y1
theorem Wx.name (h : Wx K M s i0 cg ls live wt m0 fr T) (hO : Ok9 s) {a : Int} (ha : s.st a ≠ 0) : isH a ∧ bN a = 8 * grN a ∧ clN a < 4 ∧ grN a < 8192 ∧ 8 * grN a + 8 ≤ s.nw := by
  obtain ⟨⟨k, hd, lk, gn, cl, own, mc, h1, h2⟩, -⟩ := h
  obtain ⟨⟨x1, x2⟩, -⟩ := h1.I.seen a ha
  obtain ⟨f1, f2, f3⟩ := hO.fit a ha
  have := h1.I.Mlt x2
  have := h1.I.M8
  have := h1.I.cap
  obtain ⟨z1, z2⟩ := h1.I.slot _ _ x2
  have := S1.zg_bd z1
  exact ⟨f1, x1, S1.clN_lt a, by omega, by omega⟩
theorem Wx.dims (h : Wx K M s i0 cg ls live wt m0 fr T) : s.nw ≤ 8 * M ∧ M ≤ 8192 ∧ K + M + M + 1 ≤ 65536 ∧ K + M + M + 1 ≤ s.nr ∧ 8 * cg ≤ s.nw := by
  obtain ⟨⟨k, hd, lk, gn, cl, own, mc, h1, h2⟩, -⟩ := h
  exact ⟨h1.I.grs, h1.I.M8, h1.I.rw.big2, h1.I.rw.fit2, h1.I.cap⟩
/-- one is asked for -/
theorem Wx.ask (h : Wx K M s i0 cg ls live wt none fr T) {c i n : Nat} (hi : i < K) (hic : i % 4 = c) : Wx K M s i0 cg ls live wt (some (.pop c i n ⟨0, 0, 0⟩)) fr T := by
  obtain ⟨⟨k, hd, lk, gn, cl, own, mc, h1, h2, h3, h4, h5, h6, h7, h8, h9⟩, a, b, c'⟩ := h
  refine ⟨⟨k, hd, lk, gn, cl, own, _, S1.Sl.ask h1 (by omega) h4 hi hic (n := n), h2, h3, upO_same _ _ _, h5, fun v hv => ?_, fun v m x1 x2 x3 => ?_, fun y hy => ?_, h9⟩, a, b, c'⟩
  · rw [upO_other _ _ (by omega)]
    exact h6 v hv
  · rw [upO_other _ _ (by omega)] at x3
    exact h7 v m x1 x2 x3
  · obtain ⟨v, x1, x2, x3⟩ := h8 y hy
    exact ⟨v, x1, x2, by rw [upO_other _ _ (by omega)]; exact x3⟩
def goM : Out → Option Mc
  | .go m => some m
  | _ => none
def gotL (l : List Int) : Out → List Int
  | .got h => l ++ [h]
  | _ => l
/-- the worker's machine does a step -/
theorem Wx.stepA {m : Mc} (h : Wx K M s i0 cg ls live wt (some m) none T) (hO : Ok9 s) (hT : T ≤ 1000000) : ∃ cg' ls', Wx K M (stepF K M s m).1 i0 cg' ls' (gotL live (stepF K M s m).2) wt (goM (stepF K M s m).2) none (T + 1) := by
  obtain ⟨⟨k, hd, lk, gn, cl, own, mc, h1, h2, h3, h4, h5, h6, h7, h8, h9⟩, a, b, c'⟩ := h
  obtain ⟨hd', lk', gn', cg', cl', ls', h10⟩ := h1.step hO hT (by omega : 0 < k) h4
  generalize S1.stepF K M s m = r at *
  obtain ⟨s', o⟩ := r
  have key : ∀ (ow : Nat → List Int) (mn : Nat → Option Mc) (L : List Int) (n : Option Mc), ow 0 = L → mn 0 = n → (∀ v, v ≠ 0 → ow v = own v) → (∀ v, v ≠ 0 → mn v = mc v) → Sl K M k s' hd' lk' gn' cg' cl' ls' ow mn (T + 1) → ∃ cg' ls', Wx K M s' i0 cg' ls' L wt n none (T + 1) := fun ow mn L n z1 z2 z3 z4 z5 => by
    refine ⟨cg', ls', ⟨k, hd', lk', gn', cl', ow, mn, z5, h2, z1, z2, fun v hv => ?_, fun v hv => ?_, fun v m x1 x2 x3 => ?_, fun y hy => ?_, fun y m e => (by cases e)⟩, a, b, c'⟩
    · rw [z3 v (by omega)]
      exact h5 v hv
    · rw [z4 v (by omega)]
      exact h6 v hv
    · rw [z4 v (by omega)] at x3
      exact h7 v m x1 x2 x3
    · obtain ⟨v, x1, x2, x3⟩ := h8 y hy
      exact ⟨v, x1, x2, by rw [z4 v (by omega)]; exact x3⟩
  cases o with
  | go m' => exact key own (upO mc 0 (some m')) live (some m') h3 (upO_same _ _ _) (fun _ _ => rfl) (fun v hv => upO_other _ _ hv) h10
  | freed => exact key own (upO mc 0 none) live none h3 (upO_same _ _ _) (fun _ _ => rfl) (fun v hv => upO_other _ _ hv) h10
  | refused => exact key own (upO mc 0 none) live none h3 (upO_same _ _ _) (fun _ _ => rfl) (fun v hv => upO_other _ _ hv) h10
  | got x => exact key (upO own 0 (own 0 ++ [x])) (upO mc 0 none) (live ++ [x]) none (by rw [upO_same, h3]) (upO_same _ _ _) (fun v hv => upO_other _ _ hv) (fun v hv => upO_other _ _ hv) h10
/-- one of the worker's is retired: it waits -/
theorem Wx.retire {l1 l2 : List Int} {a : Int} (h : Wx K M s i0 cg ls (l1 ++ a :: l2) wt m0 none T) (hT : T ≤ 1000000) : Wx K M (retireS s a) i0 cg ls (l1 ++ l2) (wt ++ [a]) m0 none T := by
  have hst := h.lives (a := a) (by simp)
  have hnw : a ∉ wt := fun hw => by
    have := h.waits hw
    omega
  obtain ⟨⟨k, hd, lk, gn, cl, own, mc, h1, h2, h3, h4, h5, h6, h7, h8, h9⟩, a4, aK, and⟩ := h
  have hc4 := S1.clN_lt a
  have g1 := sl_grow h1 (h5 k h2) (h6 k (Nat.le_refl _))
  have g2 := sl_move g1 (w := 0) (u := k) (by omega) (by omega) (by omega) h3
  rw [h5 k h2] at g2
  have g3 := S1.Sl.retire g2 hT (w := k) (by omega) (l1 := []) (l2 := []) (upO_same _ _ _) (h6 k (Nat.le_refl _)) (i := i0 + clN a) (by omega) (by omega)
  refine ⟨⟨k + 1, hd, lk, gn, cl, _, _, g3, by omega, ?_, ?_, fun v hv => ?_, fun v hv => ?_, fun v m x1 x2 x3 => ?_, fun y hy => ?_, fun y m e => (by cases e)⟩, a4, aK, ?_⟩
  · rw [upO_other _ _ (by omega), upO_other _ _ (by omega), upO_same]
  · rw [upO_other _ _ (by omega)]
    exact h4
  · by_cases e : v = k
    · subst e
      rw [upO_same]
      rfl
    · rw [upO_other _ _ e, upO_other _ _ e, upO_other _ _ (by omega)]
      exact h5 v hv
  · rw [upO_other _ _ (by omega)]
    exact h6 v (by omega)
  · by_cases e : v = k
    · subst e
      rw [upO_same] at x3
      cases x3
      exact ⟨a, by simp, rfl⟩
    · rw [upO_other _ _ e] at x3
      obtain ⟨y, y1, y2⟩ := h7 v m x1 (by omega) x3
      exact ⟨y, by simp [y1], y2⟩
  · rcases List.mem_append.1 hy with hy | hy
    · obtain ⟨v, x1, x2, x3⟩ := h8 y hy
      exact ⟨v, x1, by omega, by rw [upO_other _ _ (by omega)]; exact x3⟩
    · simp only [List.mem_singleton] at hy
      subst hy
      exact ⟨k, h2, by omega, upO_same _ _ _⟩
  · rw [List.nodup_append]
    refine ⟨and, by simp, fun x hx y hy e => ?_⟩
    simp only [List.mem_singleton] at hy
    subst hy e
    exact hnw hx
/-- one that waits does a step on its way -/
theorem Wx.stepF {a : Int} (h : Wx K M s i0 cg ls live wt m0 fr T) (hT : T ≤ 1000000) (ha : a ∈ wt) (hf : fr = none ∨ ∃ m, fr = some (a, m)) :
    (∃ m', (pmF fr a).ph < 2 ∧ m'.ph = (pmF fr a).ph + 1 ∧ (S1.stepF K M s (.free a (i0 + clN a) (pmF fr a))).2 = .go (.free a (i0 + clN a) m') ∧ (S1.stepF K M s (.free a (i0 + clN a) (pmF fr a))).1.st = s.st ∧ Wx K M (S1.stepF K M s (.free a (i0 + clN a) (pmF fr a))).1 i0 cg ls live wt m0 (some (a, m')) (T + 1)) ∨
    ((pmF fr a).ph = 2 ∧ (S1.stepF K M s (.free a (i0 + clN a) (pmF fr a))).2 = .freed ∧ (S1.stepF K M s (.free a (i0 + clN a) (pmF fr a))).1.st = A9.upI s.st a 0 ∧ ∀ l : List Int, l.Nodup → (∀ x, x ∈ l ↔ x ∈ wt ∧ x ≠ a) → Wx K M (S1.stepF K M s (.free a (i0 + clN a) (pmF fr a))).1 i0 cg (upLs ls (i0 + clN a) (grN a :: ls (i0 + clN a))) live l m0 none (T + 1)) := by
  obtain ⟨⟨k, hd, lk, gn, cl, own, mc, h1, h2, h3, h4, h5, h6, h7, h8, h9⟩, a4, aK, and⟩ := h
  obtain ⟨v, x1, x2, x3⟩ := h8 a ha
  have hP := h1.I.P v x2 _ x3
  have hM := h1.I.M8
  obtain ⟨hi, -, hbg, hst, ho⟩ := hP
  have e0 := h1.I.rw.hds _ hi
  have hoth : ∀ u m, 1 ≤ u → u < k → u ≠ v → mc u = some m → ∃ y ∈ wt, y ≠ a ∧ m = .free y (i0 + clN y) ⟨grN y, 0, 0⟩ := fun u m y1 y2 y3 y4 => by
    obtain ⟨y, y5, y6⟩ := h7 u m y1 y2 y4
    have hne : y ≠ a := fun e => by
      subst e
      subst y6
      exact y3 (sl_one h1 x2 y2 x3 y4)
    rw [pm_was hf hne] at y6
    exact ⟨y, y5, hne, y6⟩
  have hgo : ∀ (s1 : Ar) (lk' : Nat → Int) (m' : Pu), (m'.ph = 1 ∨ m'.ph = 2) → m'.h = hd (i0 + clN a) → Sl K M k s1 hd lk' gn cg cl ls own (upO mc v (some (.free a (i0 + clN a) m'))) (T + 1) → Wx K M s1 i0 cg ls live wt m0 (some (a, m')) (T + 1) := fun s1 lk' m' z1 z2 z3 => by
    refine ⟨⟨k, hd, lk', gn, cl, own, _, z3, h2, h3, ?_, h5, fun u hu => ?_, fun u m y1 y2 y3 => ?_, fun y hy => ?_, fun y m e => ?_⟩, a4, aK, and⟩
    · rw [upO_other _ _ (by omega)]
      exact h4
    · rw [upO_other _ _ (by omega)]
      exact h6 u hu
    · by_cases e : u = v
      · subst e
        rw [upO_same] at y3
        cases y3
        exact ⟨a, ha, by rw [pm_same]⟩
      · rw [upO_other _ _ e] at y3
        obtain ⟨y, y5, y6, y7⟩ := hoth u m y1 y2 e y3
        exact ⟨y, y5, by rw [pm_other _ y6]; exact y7⟩
    · by_cases e : y = a
      · subst e
        exact ⟨v, x1, x2, by rw [upO_same, pm_same]⟩
      · obtain ⟨u, y1, y2, y3⟩ := h8 y hy
        have hu : u ≠ v := fun e2 => by
          subst e2
          rw [x3] at y3
          cases y3
          exact e rfl
        exact ⟨u, y1, y2, by rw [upO_other _ _ hu, pm_other _ e, y3, pm_was hf e]⟩
    · cases e
      exact ⟨z1, z2⟩
  have hph : (pmF fr a).ph = 0 ∨ ((pmF fr a).ph = 1 ∧ (pmF fr a).h = hd (i0 + clN a)) ∨ ((pmF fr a).ph = 2 ∧ (pmF fr a).h = hd (i0 + clN a)) := by
    rcases hf with rfl | ⟨m, rfl⟩
    · exact .inl rfl
    · obtain ⟨z1, z2⟩ := h9 a m rfl
      rw [pm_same]
      rcases z1 with z1 | z1
      · exact .inr (.inl ⟨z1, z2⟩)
      · exact .inr (.inr ⟨z1, z2⟩)
  generalize pmF fr a = m at *
  rcases hph with p0 | ⟨p1, eh⟩ | ⟨p2, eh⟩
  · left
    have f1 := (h1.free0 x2 x3).wide (Nat.le_succ T)
    have e1 : S1.stepF K M s (.free a (i0 + clN a) m) = (useA s, .go (.free a (i0 + clN a) ⟨m.b, 1, hd (i0 + clN a)⟩)) := by
      unfold S1.stepF
      simp only [e0]
      rw [if_pos p0]
    rw [e1]
    exact ⟨⟨m.b, 1, hd (i0 + clN a)⟩, by omega, by rw [p0], rfl, rfl, hgo _ lk _ (.inl rfl) rfl f1⟩
  · left
    have f1 := (h1.free1 x2 x3 p1).wide (Nat.le_succ T)
    have e1 : S1.stepF K M s (.free a (i0 + clN a) m) = (linkS K s m.b (codF m.h), .go (.free a (i0 + clN a) ⟨m.b, 2, m.h⟩)) := by
      unfold S1.stepF
      dsimp only
      rw [if_neg (by omega), if_pos p1]
    rw [e1]
    exact ⟨⟨m.b, 2, m.h⟩, by omega, by rw [p1], rfl, rfl, hgo _ _ _ (.inr rfl) eh f1⟩
  · right
    have hb := ho.1
    have f1 := h1.free2 hT x2 x3 p2 eh
    have e1 : S1.stepF K M s (.free a (i0 + clN a) m) = (diedS (headS s (i0 + clN a) (mkF (tagF (hd (i0 + clN a)) + 1) ((m.b : Int) + 1))) a, .freed) := by
      unfold S1.stepF
      dsimp only
      rw [if_neg (by omega), if_neg (by omega), e0, if_pos eh.symm, eh, h1.trn hT hi (by omega) (by omega)]
    rw [hbg] at f1 e1
    rw [e1]
    refine ⟨p2, rfl, rfl, fun l hn hl => ?_⟩
    refine ⟨⟨k, _, _, gn, cl, own, _, f1, h2, h3, ?_, h5, fun u hu => ?_, fun u m y1 y2 y3 => ?_, fun y hy => ?_, fun y m e => (by cases e)⟩, a4, aK, hn⟩
    · rw [upO_other _ _ (by omega)]
      exact h4
    · rw [upO_other _ _ (by omega)]
      exact h6 u hu
    · by_cases e : u = v
      · subst e
        rw [upO_same] at y3
        cases y3
      · rw [upO_other _ _ e] at y3
        obtain ⟨y, y5, y6, y7⟩ := hoth u m y1 y2 e y3
        exact ⟨y, (hl y).2 ⟨y5, y6⟩, y7⟩
    · obtain ⟨y5, y6⟩ := (hl y).1 hy
      obtain ⟨u, y1, y2, y3⟩ := h8 y y5
      have hu : u ≠ v := fun e2 => by
        subst e2
        rw [x3] at y3
        cases y3
        exact y6 rfl
      exact ⟨u, y1, y2, by rw [upO_other _ _ hu, y3, pm_was hf y6, pm_none]⟩
/-- for the memory's steps: all that holds of a machine under way -/
theorem Wx.invF {a : Int} {N : Nat} (h : Wx K M s i0 cg ls live wt m0 fr T) (ha : a ∈ wt) (hN : T ≤ N) : S1.Inv K M s (.free a (i0 + clN a) (pmF fr a)) N := by
  obtain ⟨⟨k, hd, lk, gn, cl, own, mc, h1, h2, h3, h4, h5, h6, h7, h8, h9⟩, -⟩ := h
  obtain ⟨v, x1, x2, x3⟩ := h8 a ha
  exact ⟨k, hd, lk, gn, cg, cl, ls, own, mc, T, v, h1, x2, x3, hN⟩
theorem Wx.invA {m : Mc} {N : Nat} (h : Wx K M s i0 cg ls live wt (some m) fr T) (hN : T ≤ N) : S1.Inv K M s m N := by
  obtain ⟨⟨k, hd, lk, gn, cl, own, mc, h1, h2, h3, h4, h5⟩, -⟩ := h
  exact ⟨k, hd, lk, gn, cg, cl, ls, own, mc, T, 0, h1, by omega, h4, hN⟩
/-- words behind the lists stay -/
theorem Wx.farF {a : Int} (h : Wx K M s i0 cg ls live wt m0 fr T) (ha : a ∈ wt) {j : Nat} (hj : K + M + M < j) : (S1.stepF K M s (.free a (i0 + clN a) (pmF fr a))).1.raw j = s.raw j := by
  obtain ⟨⟨k, hd, lk, gn, cl, own, mc, h1, h2, h3, h4, h5, h6, h7, h8, h9⟩, -⟩ := h
  obtain ⟨v, x1, x2, x3⟩ := h8 a ha
  exact step_far h1 x2 x3 hj
theorem Wx.farA {m : Mc} (h : Wx K M s i0 cg ls live wt (some m) fr T) {j : Nat} (hj : K + M + M < j) : (S1.stepF K M s m).1.raw j = s.raw j := by
  obtain ⟨⟨k, hd, lk, gn, cl, own, mc, h1, h2, h3, h4, h5⟩, -⟩ := h
  exact step_far h1 (by omega) h4 hj
end
theorem Wx.new (K M i0 : Nat) (r n : Int) (hr : K + M + M + 1 ≤ (A9.new9 r n false).nr) (hb : K + M + M + 1 ≤ 65536) (hn : (A9.new9 r n false).nw ≤ 8 * M) (hM : M ≤ 8192) (hK : K % 4 = 0) (i4 : i0 % 4 = 0) (iK : i0 + 4 ≤ K) : Wx K M (A9.new9 r n false) i0 0 (fun _ => []) [] [] none none 0 :=
  ⟨⟨1, _, _, _, _, _, _, ⟨S1.SxI.new r n hr hb hn hM hK, S1.SxC.new r n⟩, Nat.le_refl _, rfl, rfl, fun _ _ => rfl, fun _ _ => rfl, fun _ _ _ _ e => (by cases e), fun _ h => (by simp at h), fun _ _ e => (by cases e)⟩, i4, iK, List.nodup_nil⟩
end Go.Proofs.YtopnkfbcphbbiaaDoor
namespace Go.Proofs.YtopnkfbcphbbiaaDoor.S1
open Go.RowKit
open H8 (okP sizeF HTab below_then packV packF)
open A9 (Ab ArAt ArMem FrA Ar rawA setRawA swapRawA addRawA useA Left9 ptrA Ok9 okB bornS bornA diedA diedS)
open F0 (Pl5 Tn PuAt PoAt FrS noT plBox plS plS_of below_next Wk noT_new Pu Po)

theorem nilAl (a : Addr) (w : World) : (nilAhead 238 49 (.pointer (some a)) "Step").run Tryd.prog w = .ok (some false) w := by kernel_rfl
theorem mthAl (a : Addr) (w : World) : (method 238 49 (.pointer (some a)) "Step").run Tryd.prog w = .ok (25, .pointer (some a)) w := by kernel_rfl
theorem nilFe (a : Addr) (w : World) : (nilAhead 238 70 (.pointer (some a)) "Step").run Tryd.prog w = .ok (some false) w := by kernel_rfl
theorem mthFe (a : Addr) (w : World) : (method 238 70 (.pointer (some a)) "Step").run Tryd.prog w = .ok (54, .pointer (some a)) w := by kernel_rfl
abbrev ifAl (q : Nat) : Value := .iface 49 (.pointer (some ⟨q, 0, none⟩))
abbrev ifFe (q : Nat) : Value := .iface 70 (.pointer (some ⟨q, 0, none⟩))
/-- a step, as a letter -/
theorem Run.cases' {K M n : Nat} {s : Ar} {m : Mc} {sE : Ar} {o : Out} (h : Run K M n s m sE o) : (endB (stepF K M s m).2 = true ∧ n = 1 ∧ (stepF K M s m).1 = sE ∧ (stepF K M s m).2 = o) ∨ ∃ n' s' m', n = n' + 1 ∧ stepF K M s m = (s', .go m') ∧ Run K M n' s' m' sE o := by
  cases h with
  | last e hh =>
    left
    rw [e]
    cases o with
    | go m => exact hh.elim
    | freed => exact ⟨rfl, rfl, rfl, rfl⟩
    | refused => exact ⟨rfl, rfl, rfl, rfl⟩
    | got x => exact ⟨rfl, rfl, rfl, rfl⟩
  | more e hh => exact .inr ⟨_, _, _, rfl, e, hh⟩
theorem Run.pos {K M n : Nat} {s : Ar} {m : Mc} {sE : Ar} {o : Out} (h : Run K M n s m sE o) : 1 ≤ n := by cases h <;> omega
/-- all that holds at a round's head -/
structure RnA (B : Ab) (q : Nat) (W : World) (p : Pl5) (K M N x0 : Nat) (sE : Ar) (o : Out) (i : Nat) (w : World) (s : Ar) (m : Mc) (a : Al) (t : Tn) (n : Nat) : Prop where
  ar : ArAt B w s
  al : AlM B q w p a t
  R : AlR m a t
  I : Inv K M s m (N + i)
  run : Run K M n s m sE o
  le : i + n ≤ 300
  fr : FrS (S3 B q x0) W w
  nx : a.x = x0 ∨ W.heap.size ≤ a.x
def EndA (B : Ab) (q : Nat) (W : World) (p : Pl5) (x0 : Nat) (sE : Ar) (o : Out) (e : Ending) (w : World) : Prop :=
  e = .returned (.bool true) ∧ ArAt B w sE ∧ ∃ a t, AlM B q w p a t ∧ outR o a t ∧ FrS (S3 B q x0) W w ∧ (a.x = x0 ∨ W.heap.size ≤ a.x)
section
variable {B : Ab} {q : Nat} {w w' : World} {p : Pl5} {a : Al} {t t' : Tn} {s s' : Ar} {K M N : Nat}
theorem S3.far {W : World} {x0 x : Nat} {w1 w2 : World} (h1 : FrS (S3 B q x0) W w1) (h2 : FrS (S3 B q x) w1 w2) (hx : x = x0 ∨ W.heap.size ≤ x) : FrS (S3 B q x0) W w2 := by
  refine ⟨h2.os.trans h1.os, h2.tape.trans h1.tape, h2.output.trans h1.output, Nat.le_trans h1.size h2.size, fun k hk hn => (h2.block k (Nat.lt_of_lt_of_le hk h1.size) fun hh => ?_).trans (h1.block k hk hn)⟩
  rcases hh with hh | hh | hh
  · exact hn (.inl hh)
  · exact hn (.inr (.inl hh))
  · rcases hx with e | e
    · exact hn (.inr (.inr (hh.trans e)))
    · omega
theorem RnA.step {W : World} {x0 i n : Nat} {sE : Ar} {o : Out} {m : Mc} (h : RnA B q W p K M N x0 sE o i w s m a t n) (hp : PlS K M p) (hN : N ≤ 800000) :
    Calls Tryd.prog 25 #[.pointer (some ⟨q, 0, none⟩), ptrA B] w fun e w' => ∃ d s', e = .returned (.bool d) ∧ s'.uses = wrap64 (s.uses + 1) ∧ ArAt B w' s' ∧
      (d = true → EndA B q W p x0 sE o (.returned (.bool true)) w') ∧ (d = false → ∃ m' a' t' n', RnA B q W p K M N x0 sE o (i + 1) w' s' m' a' t' n') := by
  have hle := h.le
  refine (alStep h.ar h.al h.R hp h.I (by omega)).mono fun e w' hh => ?_
  obtain ⟨a', t', ⟨e1, e2, e3, e4, e5⟩, e6⟩ := hh
  have hu := (step_uses K M s m).1
  have hfr := S3.far h.fr e4 h.nx
  have hnx : a'.x = x0 ∨ W.heap.size ≤ a'.x := by
    rcases e5 with e5 | e5
    · rw [e5]; exact h.nx
    · exact .inr (Nat.le_trans h.fr.size e5)
  refine ⟨_, _, e1, hu, e2, fun hd => ?_, fun hd => ?_⟩
  · rcases h.run.cases' with ⟨-, -, r1, r2⟩ | ⟨n', s', m', -, r, -⟩
    · rw [r1] at e2
      rw [r2] at e6
      exact ⟨rfl, e2, a', t', e3, e6, hfr, hnx⟩
    · rw [r] at hd
      simp [endB] at hd
  · rcases h.run.cases' with ⟨r0, -, -, -⟩ | ⟨n', s', m', rfl, r, hr⟩
    · rw [r0] at hd
      cases hd
    · have hI := h.I.step h.ar.ok (by omega) r
      rw [r] at e2 e6
      rw [r]
      exact ⟨m', a', t', n', e2, e3, e6, hI, hr, by omega, hfr, hnx⟩
/-! ### a free -/
structure RnF (B : Ab) (q : Nat) (W : World) (p : Pl5) (K M N y0 : Nat) (b : Int) (sE : Ar) (o : Out) (i : Nat) (w : World) (s : Ar) (m : Mc) (f : Fe) (t : Tn) (n : Nat) : Prop where
  ar : ArAt B w s
  al : FeM B q w p f b t
  R : FeR m f b t
  I : Inv K M s m (N + i)
  run : Run K M n s m sE o
  le : i + n ≤ 300
  fr : FrS (S3 B q y0) W w
  nx : f.y = y0
def EndF (B : Ab) (q : Nat) (W : World) (y0 : Nat) (sE : Ar) (e : Ending) (w : World) : Prop :=
  e = .returned (.bool true) ∧ ArAt B w sE ∧ FrS (S3 B q y0) W w
theorem RnF.step {W : World} {y0 i n : Nat} {b : Int} {f : Fe} {sE : Ar} {o : Out} {m : Mc} (h : RnF B q W p K M N y0 b sE o i w s m f t n) (hp : PlS K M p) (hN : N ≤ 800000) :
    Calls Tryd.prog 54 #[.pointer (some ⟨q, 0, none⟩), ptrA B] w fun e w' => ∃ d s', e = .returned (.bool d) ∧ s'.uses = wrap64 (s.uses + 1) ∧ ArAt B w' s' ∧
      (d = true → EndF B q W y0 sE (.returned (.bool true)) w') ∧ (d = false → ∃ m' f' t' n', RnF B q W p K M N y0 b sE o (i + 1) w' s' m' f' t' n') := by
  have hle := h.le
  refine (feStep h.ar h.al h.R hp h.I).mono fun e w' hh => ?_
  obtain ⟨f', t', ⟨e1, e2, e3, e4⟩, e5, e6⟩ := hh
  have hu := (step_uses K M s m).1
  have hfr : FrS (S3 B q y0) W w' := S3.far h.fr (x := f'.y) e4 (.inl (e5.trans h.nx))
  refine ⟨_, _, e1, hu, e2, fun hd => ?_, fun hd => ?_⟩
  · rcases h.run.cases' with ⟨-, -, r1, r2⟩ | ⟨n', s', m', -, r, -⟩
    · rw [r1] at e2
      exact ⟨rfl, e2, hfr⟩
    · rw [r] at hd
      simp [endB] at hd
  · rcases h.run.cases' with ⟨r0, -, -, -⟩ | ⟨n', s', m', rfl, r, hr⟩
    · rw [r0] at hd
      cases hd
    · have hI := h.I.step h.ar.ok (by omega) r
      rw [r] at e2 e6
      rw [r]
      exact ⟨m', f', t', n', e2, e3, e6, hI, hr, by omega, hfr, e5.trans h.nx⟩
end
end Go.Proofs.YtopnkfbcphbbiaaDoor.S1
