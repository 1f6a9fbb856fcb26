/-
  Helpers: RxA15, EvB, EvA1, EvA2.
-/
import Derived.Test.YtpmapdialjdcbaaDoorBun382075a39a16
namespace Go.Proofs.YtpmapdialjdcbaaDoor
open Go.RowKit
open C2 (In Pr SlF SlI InsAt still_of_below below_then)

set_option maxHeartbeats 2000000 in
set_option maxRecDepth 4000 in
theorem rone_15 {E : Ev7} {w : World} {rv : Value} {r : Rs} {t : Ts} {bt a : Nat} {b c : Int} (hw : Rh E w rv r) (ht : Tr E w bt t) (hl : t.reg.length = 8) (hr : ∀ x ∈ t.reg, wrp x = x) (hh : t.has.length = 4) (hn : t.hand.length = 4) (ha : a < 8) :
    Calls Tryd.prog 36 #[.pointer (some ⟨E.bw, 0, none⟩), .pointer (some ⟨bt, 0, none⟩), .agg #[.int .i64 15, .int .i64 a, .int .i64 b, .int .i64 c]] w fun e w' => ROne E bt rv w (oneP r t ⟨15, a, b, c⟩) e w' := by
  have hM := Mr.made 15 a b c hw ht
  have HO : Hid (oneP r t ⟨15, a, b, c⟩ = (r, { t with e := ⟨1, t.reg.getD a 0⟩ })) := by show _ = _; simp [oneP, rg]
  have HR : Hid (t.reg.length = 8 ∧ (∀ x ∈ t.reg, wrp x = x) ∧ t.has.length = 4 ∧ t.hand.length = 4) := ⟨hl, hr, hh, hn⟩
  clear hl hr hh hn hw ht
  go_enter Tryd.func36, Tryd.ntmps36
  go_upto_region 24 with fail
  generalize hW2 : w.alloc (.cells #[.int .i64 15, .int .i64 a, .int .i64 b, .int .i64 c] 54) = w2 at *
  generalize hBI : w.heap.size = bi at *
  clear hW2 hBI
  obtain ⟨mw, mt, mf, ml, mlw, mex, j0, j1, j2, j3⟩ := hM
  have mn : bi ≠ bt := by omega
  have mn2 : bt ≠ bi := by omega
  have hai : (a : Int) < 8 := by omega
  have ca := mt.reg ha
  have f25 := mt.frozen 25
  have f26 := mt.frozen 26
  have c25 := mt.cellAt 25
  have c26 := mt.cellAt 26
  simp [trC] at c25 c26
  generalize t.reg.getD a 0 = y at *
  go_wp2_with fail
  go_region
  all_goals
    go_wp2_with fail
    exact bodyPost_end (v := .tuple #[]) (by simp [results, Tryd.results36, go_sem]) rfl (by rw [HO.out]; exact ⟨rfl, mw.drew.setT2 mt.drew _ _ _ _, mt.drew.setE 1 y, mf.drew.setT2 mt.lo _ _ _ _⟩)
end Go.Proofs.YtpmapdialjdcbaaDoor
namespace Go.Proofs.YtpmapdialjdcbaaDoor
open Go.RowKit
open C2 (In Pr SlF SlI InsAt still_of_below below_then)
open K6 (Ky)

set_option maxRecDepth 4000 in
theorem step_fuel {E : Ev7} {w : World} {bt : Nat} {cv : Value} {t : Ts} (ht : Tk7 E w bt cv t) (hf : t.fuel = 0) : Calls Tryd.prog 51 #[.pointer (some ⟨bt, 0, none⟩)] w fun e w' => e = pan ⟨5, 0⟩ ∧ w' = w := by
  have q := spend_none ht hf
  clear ht hf
  go_enter Tryd.func51, Tryd.ntmps51
  go_wp2_with fail
  refine q.mono ?_
  rintro e w' ⟨rfl, rfl⟩
  go_wp2_with fail
  exact ⟨rfl, rfl, rfl⟩
set_option maxRecDepth 4000 in
theorem step_over {E : Ev7} {w : World} {d : Wd} {bt : Nat} {cv : Value} {t : Ts} (hw : Wh E w d) (ht : Tk7 E w bt cv t) (hf : t.fuel ≠ 0) (hf2 : t.fuel ≤ 500) (hs : d.st ≤ 1000000) (ho : E.M ≤ d.st) : Calls Tryd.prog 51 #[.pointer (some ⟨bt, 0, none⟩)] w fun e w' => e = pan ⟨0, 0⟩ ∧ Wh E w' { d with st := d.st + 1 } ∧ Fr7 E (some bt) w w' := by
  have q := spend_some hw ht hf hf2 hs
  rw [if_pos (by omega)] at q
  clear hw ht hf hs ho hf2
  go_enter Tryd.func51, Tryd.ntmps51
  go_wp2_with fail
  refine q.mono ?_
  rintro e w' ⟨rfl, h1, h2, h3⟩
  go_wp2_with fail
  exact ⟨rfl, rfl, h1, h3⟩
/-- there are never more instructions than there may be -/
theorem ev_le {p : Pg7} {M : Nat} : ∀ (n : Nat) (r : Rs) (t : Ts), M - r.steps ≤ n → r.steps ≤ M → (ev7 p M r t).1.steps ≤ M := by
  intro n
  induction n with
  | zero =>
    intro r t hn hM
    rcases goes_or M r t with h | ⟨h1, h2, h3⟩ | ⟨h1, h2, h3, h4⟩ | h
    · rw [ev7, evP_end p M depK chY h]; exact hM
    · rw [ev7, evP_fuel p M depK chY h1 h2 h3]; exact hM
    · rw [ev7, evP_over p M depK chY h1 h2 h3 h4]; exact hM
    · have := h.2.2.2; omega
  | succ n ih =>
    intro r t hn hM
    rcases goes_or M r t with h | ⟨h1, h2, h3⟩ | ⟨h1, h2, h3, h4⟩ | h
    · rw [ev7, evP_end p M depK chY h]; exact hM
    · rw [ev7, evP_fuel p M depK chY h1 h2 h3]; exact hM
    · rw [ev7, evP_over p M depK chY h1 h2 h3 h4]; exact hM
    · have hs := h.2.2.2
      rcases evP_ways p depK chY h with ⟨r', t', k1, k2, k3, k4⟩ | k
      · rw [ev7, k3]
        exact ih r' t' (by omega) (by omega)
      · rw [ev7, k M h]
        have hf : (forkR (up1 r)).steps = r.steps + 1 := rfl
        have m1 := evP_mono p M depK chY (forkR (up1 r)) (kidT p chY t)
        have m2 := ih (forkR (up1 r)) (kidT p chY t) (by omega) (by omega)
        unfold ev7 at m2
        refine ih _ _ ?_ ?_
        · rw [(told_steps _ _ _ _ _).1]; omega
        · rw [(told_steps _ _ _ _ _).1]; omega
end Go.Proofs.YtpmapdialjdcbaaDoor
namespace Go.Proofs.YtpmapdialjdcbaaDoor
open Go.RowKit
open C2 (In Pr SlF SlI InsAt still_of_below below_then)
open K6 (Ky)

set_option maxHeartbeats 2000000 in
set_option maxRecDepth 4000 in
theorem step_1 {E : Ev7} {w : World} {d : Wd} {bt : Nat} {cv : Value} {r : Rs} {t : Ts} {tk : Ky} (h : Pre7 E w d bt cv r t tk) (hg : goesB E.M r t) (ho : (ins7 E.p t).o = 1) : Calls Tryd.prog 51 #[.pointer (some ⟨bt, 0, none⟩)] w fun e w' => StOne E bt cv w d r t e w' := by
  have hx := (h.hp.fn _ h.st.fnm).2.2.2 _ (h.st.insm hg.1)
  have hs := shape_facts hx.1
  have hr := V5.right_iff.1 hx.2
  obtain ⟨g, f, cap, m, rfl, hat, hm, hI⟩ := h.code hg.1
  have HSP := h.spend hg
  have HE : Hid (t.e = en0) := en_zero h.st.tok hg.1
  have hst := h.st
  have hmt := h.mt
  have hati : (t.at_ : Int) < m := by omega
  unfold StOne
  generalize hX : ins7 E.p t = x at *
  obtain ⟨xo, xa, xb, xc⟩ := x
  simp only at ho
  subst ho
  obtain ⟨a, rfl⟩ : ∃ a : Nat, xa = a := ⟨xa.toNat, by have := hs.a0; have := hs.c0; have := hs.b0; simp only at *; omega⟩
  have H : Hid (Pre7 E w d bt (.slice (some ⟨g, f, none⟩) m cap) r t tk) := h
  have HI : Hid (∀ w' d', Wh E w' d' → InsAt w' g (f + t.at_ * 4) ⟨1, a, xb, xc⟩) := hI
  have HST : Hid (St7 E.p r t tk) := hst
  have HMT : Hid (Mt d r) := hmt
  have ha : a < 8 := by have := hs.r; simp only at this; omega
  have hai : (a : Int) < 8 := by omega
  have hw32 : wrp xb = xb := by have := hs.c1 rfl; simp only at this; exact wrp_fix this.1 this.2
  have HO : Hid ((oneP (up1 r) (down1 t) ⟨1, a, xb, xc⟩).1 = up1 r ∧ (oneP (up1 r) (down1 t) ⟨1, a, xb, xc⟩).2 = (down1 t).put a xb) := by show _ ∧ _; constructor <;> simp [oneP]
  clear h hI hst hmt hx hs hr hX
  go_enter Tryd.func51, Tryd.ntmps51
  go_wp2_with fail
  refine HSP.mono ?_
  rintro e w1 ⟨rfl, hw1, ht1, hF1⟩
  have hMid := Mid7.made (x := ⟨1, a, xb, xc⟩) hw1 ht1 hF1
  obtain ⟨i0, i1, i2, i3⟩ := HI.out w1 _ hw1
  have c2 := ht1.cellAt 2
  have c3 := ht1.cellAt 3
  have fz3 := ht1.frozen 3
  have hlt := ht1.lt
  simp [tkC] at c2 c3
  simp only at i0 i1 i2 i3 hMid
  have hltg : g < w1.heap.size := block_lt_of_cell i0
  clear HSP
  go_wp2_with fail
  go_region
  go_upto_region 4 with fail
  generalize hW2 : ((w1.setCell ⟨bt, 3, none⟩ (.int .i64 ((t.at_ : Int) + 1))).alloc (.cells #[.int .i64 1, .int .i64 a, .int .i64 xb, .int .i64 xc] 54)).drew = w2 at *
  generalize hBI : w1.heap.size = bi at *
  clear hW2 i0 i1 i2 i3 c2 c3 fz3 hlt hltg hw1 ht1 hF1 hBI
  obtain ⟨mw, mt, mf, mn, j0, j1, j2, j3⟩ := hMid
  simp only at j0 j1 j2 j3
  have mn2 : bt ≠ bi := fun e => mn e.symm
  have hE1 : Hid ((down1 t).e = en0) := HE.out
  have hlen : Hid ((down1 t).reg.length = 8) := HST.out.reg
  have hR32 : Hid (∀ x ∈ (down1 t).reg, wrp x = x) := HST.out.r32
  have ca := mt.reg ha
  have fa := mt.frozen (6 + a)
  have q := fun w => V1.wrap_any xb w
  rw [v_wrap, hw32] at q
  clear hw32
  go_wp2_with fail
  go_region_law (go_simp; go_at_call 23; refine (q _).mono ?_; rintro e w3 ⟨rfl, rfl⟩)
  all_goals
    go_wp2_with fail
    exact bodyPost_end (v := .tuple #[]) (by simp [results, Tryd.results51, go_sem]) rfl (st_one (d' := { d with st := d.st + 1 }) HO ⟨.inl ⟨by show t.e.h = 0; rw [HE.out]; rfl, rfl, mt.drew.setReg hlen.out ha _⟩, mw.drew.setT mt.drew _ _, mf.drew.setT mt.lo _ _⟩ HMT.out.up rfl)
end Go.Proofs.YtpmapdialjdcbaaDoor
namespace Go.Proofs.YtpmapdialjdcbaaDoor
open Go.RowKit
open C2 (In Pr SlF SlI InsAt still_of_below below_then)
open K6 (Ky)

set_option maxHeartbeats 2000000 in
set_option maxRecDepth 4000 in
theorem step_2 {E : Ev7} {w : World} {d : Wd} {bt : Nat} {cv : Value} {r : Rs} {t : Ts} {tk : Ky} (h : Pre7 E w d bt cv r t tk) (hg : goesB E.M r t) (ho : (ins7 E.p t).o = 2) : Calls Tryd.prog 51 #[.pointer (some ⟨bt, 0, none⟩)] w fun e w' => StOne E bt cv w d r t e w' := by
  have hx := (h.hp.fn _ h.st.fnm).2.2.2 _ (h.st.insm hg.1)
  have hs := shape_facts hx.1
  have hr := V5.right_iff.1 hx.2
  obtain ⟨g, f, cap, m, rfl, hat, hm, hI⟩ := h.code hg.1
  have HSP := h.spend hg
  have HE : Hid (t.e = en0) := en_zero h.st.tok hg.1
  have hst := h.st
  have hmt := h.mt
  have hati : (t.at_ : Int) < m := by omega
  unfold StOne
  generalize hX : ins7 E.p t = x at *
  obtain ⟨xo, xa, xb, xc⟩ := x
  simp only at ho
  subst ho
  obtain ⟨a, rfl⟩ : ∃ a : Nat, xa = a := ⟨xa.toNat, by have := hs.a0; have := hs.c0; have := hs.b0; simp only at *; omega⟩
  obtain ⟨b, rfl⟩ : ∃ b : Nat, xb = b := ⟨xb.toNat, by have := hs.a0; have := hs.c0; have := hs.b0; simp only at *; omega⟩
  obtain ⟨c, rfl⟩ : ∃ c : Nat, xc = c := ⟨xc.toNat, by have := hs.a0; have := hs.c0; have := hs.b0; simp only at *; omega⟩
  have H : Hid (Pre7 E w d bt (.slice (some ⟨g, f, none⟩) m cap) r t tk) := h
  have HI : Hid (∀ w' d', Wh E w' d' → InsAt w' g (f + t.at_ * 4) ⟨2, a, b, c⟩) := hI
  have HST : Hid (St7 E.p r t tk) := hst
  have HMT : Hid (Mt d r) := hmt
  have ha : a < 8 := by have := hs.r; simp only at this; omega
  have hai : (a : Int) < 8 := by omega
  have hb : b < 8 := by have := hs.b7; simp only at this; omega
  have hbi : (b : Int) < 8 := by omega
  have hc : c < 8 := by have := hs.c7; simp only at this; omega
  have hci : (c : Int) < 8 := by omega
  have HO : Hid ((oneP (up1 r) (down1 t) ⟨2, a, b, c⟩).1 = up1 r ∧ (oneP (up1 r) (down1 t) ⟨2, a, b, c⟩).2 = (down1 t).put a (wrp ((down1 t).reg.getD b 0 + (down1 t).reg.getD c 0))) := by show _ ∧ _; constructor <;> simp [oneP, rg]
  clear h hI hst hmt hx hs hr hX
  go_enter Tryd.func51, Tryd.ntmps51
  go_wp2_with fail
  refine HSP.mono ?_
  rintro e w1 ⟨rfl, hw1, ht1, hF1⟩
  have hMid := Mid7.made (x := ⟨2, a, b, c⟩) hw1 ht1 hF1
  obtain ⟨i0, i1, i2, i3⟩ := HI.out w1 _ hw1
  have c2 := ht1.cellAt 2
  have c3 := ht1.cellAt 3
  have fz3 := ht1.frozen 3
  have hlt := ht1.lt
  simp [tkC] at c2 c3
  simp only at i0 i1 i2 i3 hMid
  have hltg : g < w1.heap.size := block_lt_of_cell i0
  clear HSP
  go_wp2_with fail
  go_region
  go_upto_region 4 with fail
  generalize hW2 : ((w1.setCell ⟨bt, 3, none⟩ (.int .i64 ((t.at_ : Int) + 1))).alloc (.cells #[.int .i64 2, .int .i64 a, .int .i64 b, .int .i64 c] 54)).drew = w2 at *
  generalize hBI : w1.heap.size = bi at *
  clear hW2 i0 i1 i2 i3 c2 c3 fz3 hlt hltg hw1 ht1 hF1 hBI
  obtain ⟨mw, mt, mf, mn, j0, j1, j2, j3⟩ := hMid
  simp only at j0 j1 j2 j3
  have mn2 : bt ≠ bi := fun e => mn e.symm
  have hE1 : Hid ((down1 t).e = en0) := HE.out
  have hlen : Hid ((down1 t).reg.length = 8) := HST.out.reg
  have hR32 : Hid (∀ x ∈ (down1 t).reg, wrp x = x) := HST.out.r32
  have cb := mt.reg hb
  have cc := mt.reg hc
  have ca := mt.reg ha
  have fa := mt.frozen (6 + a)
  have q := fun w => V1.add_any ((down1 t).reg.getD b 0) ((down1 t).reg.getD c 0) w
  rw [v_add (hR32.out _ (getD_mem (by rw [hlen.out]; omega) 0)) (hR32.out _ (getD_mem (by rw [hlen.out]; omega) 0))] at q
  obtain ⟨y, hy⟩ : ∃ y, wrp ((down1 t).reg.getD b 0 + (down1 t).reg.getD c 0) = y := ⟨_, rfl⟩
  have HY : Hid (wrp ((down1 t).reg.getD b 0 + (down1 t).reg.getD c 0) = y) := hy
  rw [hy] at q
  clear hy
  go_wp2_with fail
  go_region_law (go_simp; go_at_call 65; refine (q _).mono ?_; rintro e w3 ⟨rfl, rfl⟩)
  all_goals
    go_wp2_with fail
    exact bodyPost_end (v := .tuple #[]) (by simp [results, Tryd.results51, go_sem]) rfl (st_one (d' := { d with st := d.st + 1 }) HO ⟨.inl ⟨by show t.e.h = 0; rw [HE.out]; rfl, rfl, (by have h := mt.drew.setReg hlen.out ha y; rw [← HY.out] at h; rw [← HY.out]; exact h)⟩, mw.drew.setT mt.drew _ _, mf.drew.setT mt.lo _ _⟩ HMT.out.up rfl)
end Go.Proofs.YtpmapdialjdcbaaDoor
