/-
  Helpers: EvA15, EvX, EvZ, EvD.
-/
import Derived.Test.YtpmapdialjdcbaaDoorBun382075a39a16
import Derived.RegionDies
import Derived.Test.YtpmapdialjdcbaaDoorBun34bf05cd0c81
import Derived.Test.YtpmapdialjdcbaaDoorBunf36623dc129e
import Derived.Test.YtpmapdialjdcbaaDoorBunc6ba376978c2
import Derived.Test.YtpmapdialjdcbaaDoorBuneee2438a68dd
import Derived.Test.YtpmapdialjdcbaaDoorBunfebe508268aa
namespace Go.Proofs.YtpmapdialjdcbaaDoor
open Go.RowKit
open C2 (In Pr SlF SlI InsAt still_of_below below_then)
open K6 (Ky)

set_option maxHeartbeats 2000000 in
set_option maxRecDepth 4000 in
theorem step_15 {E : Ev7} {w : World} {d : Wd} {bt : Nat} {cv : Value} {r : Rs} {t : Ts} {tk : Ky} (h : Pre7 E w d bt cv r t tk) (hg : goesB E.M r t) (ho : (ins7 E.p t).o = 15) : Calls Tryd.prog 51 #[.pointer (some ⟨bt, 0, none⟩)] w fun e w' => StOne E bt cv w d r t e w' := by
  have hx := (h.hp.fn _ h.st.fnm).2.2.2 _ (h.st.insm hg.1)
  have hs := shape_facts hx.1
  have hr := V5.right_iff.1 hx.2
  obtain ⟨g, f, cap, m, rfl, hat, hm, hI⟩ := h.code hg.1
  have HSP := h.spend hg
  have HE : Hid (t.e = en0) := en_zero h.st.tok hg.1
  have hst := h.st
  have hmt := h.mt
  have hati : (t.at_ : Int) < m := by omega
  unfold StOne
  generalize hX : ins7 E.p t = x at *
  obtain ⟨xo, xa, xb, xc⟩ := x
  simp only at ho
  subst ho
  obtain ⟨a, rfl⟩ : ∃ a : Nat, xa = a := ⟨xa.toNat, by have := hs.a0; have := hs.c0; have := hs.b0; simp only at *; omega⟩
  have H : Hid (Pre7 E w d bt (.slice (some ⟨g, f, none⟩) m cap) r t tk) := h
  have HI : Hid (∀ w' d', Wh E w' d' → InsAt w' g (f + t.at_ * 4) ⟨15, a, xb, xc⟩) := hI
  have HST : Hid (St7 E.p r t tk) := hst
  have HMT : Hid (Mt d r) := hmt
  have ha : a < 8 := by have := hs.r; simp only at this; omega
  have hai : (a : Int) < 8 := by omega
  have HO : Hid ((oneP (up1 r) (down1 t) ⟨15, a, xb, xc⟩).1 = up1 r ∧ (oneP (up1 r) (down1 t) ⟨15, a, xb, xc⟩).2 = { down1 t with e := ⟨1, rg (down1 t) a⟩ }) := by show _ ∧ _; constructor <;> simp [oneP]
  clear h hI hst hmt hx hs hr hX
  go_enter Tryd.func51, Tryd.ntmps51
  go_wp2_with fail
  refine HSP.mono ?_
  rintro e w1 ⟨rfl, hw1, ht1, hF1⟩
  have hMid := Mid7.made (x := ⟨15, a, xb, xc⟩) hw1 ht1 hF1
  obtain ⟨i0, i1, i2, i3⟩ := HI.out w1 _ hw1
  have c2 := ht1.cellAt 2
  have c3 := ht1.cellAt 3
  have fz3 := ht1.frozen 3
  have hlt := ht1.lt
  simp [tkC] at c2 c3
  simp only at i0 i1 i2 i3 hMid
  have hltg : g < w1.heap.size := block_lt_of_cell i0
  clear HSP
  go_wp2_with fail
  go_region
  go_upto_region 4 with fail
  generalize hW2 : ((w1.setCell ⟨bt, 3, none⟩ (.int .i64 ((t.at_ : Int) + 1))).alloc (.cells #[.int .i64 15, .int .i64 a, .int .i64 xb, .int .i64 xc] 54)).drew = w2 at *
  generalize hBI : w1.heap.size = bi at *
  clear hW2 i0 i1 i2 i3 c2 c3 fz3 hlt hltg hw1 ht1 hF1 hBI
  obtain ⟨mw, mt, mf, mn, j0, j1, j2, j3⟩ := hMid
  simp only at j0 j1 j2 j3
  have mn2 : bt ≠ bi := fun e => mn e.symm
  have hE1 : Hid ((down1 t).e = en0) := HE.out
  have hlen : Hid ((down1 t).reg.length = 8) := HST.out.reg
  have hR32 : Hid (∀ x ∈ (down1 t).reg, wrp x = x) := HST.out.r32
  have ca := mt.reg ha
  go_wp2_with fail
  go_region_dies
  all_goals (try go_wp2_with fail)
  all_goals
    exact ⟨rfl, st_one (d' := { d with st := d.st + 1 }) HO ⟨.inr ⟨by simp, rfl⟩, mw.drew, mf.drew⟩ HMT.out.up rfl⟩
end Go.Proofs.YtpmapdialjdcbaaDoor
namespace Go.Proofs.YtpmapdialjdcbaaDoor
open Go.RowKit
open C2 (In Pr SlF SlI InsAt still_of_below below_then)
open K6 (Ky)

/-- the task has gone on, as the evaluator does -/
def On7 (E : Ev7) (bt : Nat) (cv : Value) (w : World) (d : Wd) (r : Rs) (t : Ts) (tk : Ky) (e : Ending) (w' : World) : Prop :=
  ∃ r' t' d' Z, ev7 E.p E.M r t = ev7 E.p E.M r' t' ∧ r.steps < r'.steps ∧ r'.steps ≤ E.M ∧ St7 E.p r' t' tk ∧ r'.over = false ∧ t'.fn = t.fn ∧ Mt d' r' ∧ Bd d' ∧ d'.C = d.C ++ Z ∧ r'.ran = r.ran ++ Z ∧ Sp E bt cv w d' t' e w'
/-- a fork was over -/
def Ov7 (E : Ev7) (n bt : Nat) (cv : Value) (w : World) (d : Wd) (r : Rs) (t : Ts) (e : Ending) (w' : World) : Prop :=
  (ev7 E.p E.M r t).1.over = true ∧ e = .returned (.tuple #[]) ∧ ∃ d' t', Wh E w' d' ∧ Tk7 E w' bt cv t' ∧ Fr7 E (some bt) w w' ∧ Bd d' ∧ t'.fuel ≤ 500 ∧ E.M < d'.st ∧ d'.st ≤ E.M + n ∧ d.C.length ≤ d'.C.length
def StPost (E : Ev7) (n bt : Nat) (cv : Value) (w : World) (d : Wd) (r : Rs) (t : Ts) (tk : Ky) (e : Ending) (w' : World) : Prop :=
  (t.fuel = 0 ∧ e = pan ⟨5, 0⟩ ∧ w' = w) ∨ (t.fuel ≠ 0 ∧ E.M ≤ r.steps ∧ e = pan ⟨0, 0⟩ ∧ Wh E w' { d with st := d.st + 1 } ∧ Fr7 E (some bt) w w') ∨ (goesB E.M r t ∧ (On7 E bt cv w d r t tk e w' ∨ Ov7 E n bt cv w d r t e w'))
theorem fnIf {t : Ts} {c : Prop} [Decidable c] {a b : Rs × Ts} (ha : a.2.fn = t.fn) (hb : b.2.fn = t.fn) : (if c then a else b).2.fn = t.fn := by
  by_cases h : c
  · rw [if_pos h]; exact ha
  · rw [if_neg h]; exact hb
theorem fnIf2 {t : Ts} {c : Prop} [Decidable c] {r : Rs} {a b : Ts} (ha : a.fn = t.fn) (hb : b.fn = t.fn) : ((r, if c then a else b) : Rs × Ts).2.fn = t.fn := by
  show (if c then a else b).fn = t.fn
  by_cases h : c
  · rw [if_pos h]; exact ha
  · rw [if_neg h]; exact hb
theorem fnIf3 {t : Ts} {c : Prop} [Decidable c] {a b : Ts} (ha : a.fn = t.fn) (hb : b.fn = t.fn) : (if c then a else b).fn = t.fn := by
  by_cases h : c
  · rw [if_pos h]; exact ha
  · rw [if_neg h]; exact hb
theorem oneP_fn (r : Rs) (t : Ts) (x : In) : (oneP r t x).2.fn = t.fn := by
  unfold oneP
  repeat' (first | rfl | refine fnIf ?_ ?_ | refine fnIf2 ?_ ?_ | refine fnIf3 ?_ ?_)
theorem on_one {E : Ev7} {w w' : World} {d : Wd} {bt : Nat} {cv : Value} {r : Rs} {t : Ts} {tk : Ky} {e : Ending} (h : Pre7 E w d bt cv r t tk) (hbd : Bd d) (hg : goesB E.M r t) (h9 : (ins7 E.p t).o ≠ 9) (hs : StOne E bt cv w d r t e w') : On7 E bt cv w d r t tk e w' := by
  obtain ⟨d', hsp, hmt, hC⟩ := hs
  obtain ⟨s1, s2, s3, s4⟩ := oneP_steps (up1 r) (down1 t) (ins7 E.p t)
  have h1 := hg.2.2.2
  have e1 : (up1 r).steps = r.steps + 1 := rfl
  have e2 : (up1 r).forks = r.forks := rfl
  have e3 : (up1 r).ran = r.ran := rfl
  refine ⟨_, _, d', [], ?_, ?_, ?_, one_st h.hp h.st hg.1, s2.trans hg.2.1, oneP_fn _ _ _, hmt, ⟨?_, ?_⟩, by rw [hC, List.append_nil], by rw [s3, e3, List.append_nil], hsp⟩
  · unfold ev7
    rw [evP_step E.p E.M depK chY hg]; unfold bodyP; rw [if_neg h9]
  · omega
  · omega
  · have := hbd.c
    have := hmt.st
    have := h.mt.st
    rw [hC]
    omega
  · have := hbd.k
    have := hmt.st
    have := hmt.fk
    have := h.mt.st
    have := h.mt.fk
    omega
theorem on_end {E : Ev7} {w w2 w' : World} {d : Wd} {bt : Nat} {cv : Value} {r : Rs} {t : Ts} {tk : Ky} {e : Ending} (h : Pre7 E w d bt cv r t tk) (hbd : Bd d) (hg : goesB E.M r t) {k : Int} (hk1 : 1 ≤ k) (hk9 : k ≤ 9) (h9 : (ins7 E.p t).o = 9) (he : ev7 E.p E.M r t = ev7 E.p E.M (up1 r) ((down1 t).ends k)) (hF : Fr7 E (some bt) w w2) (hs : Sp E bt cv w2 { d with st := d.st + 1 } ((down1 t).ends k) e w') : On7 E bt cv w d r t tk e w' := by
  have h1 := hg.2.2.2
  have hc := hbd.c
  have hkk := hbd.k
  refine ⟨_, _, { d with st := d.st + 1 }, [], he, ?_, ?_, (h.st.down h.hp hg.1 (by omega) (by omega)).ends hg.1 hk1 hk9, hg.2.1, rfl, h.mt.up, ⟨by simp only; omega, by simp only; omega⟩, by rw [List.append_nil], by show r.ran = _; rw [List.append_nil], hs.how, hs.wh, hF.trans hs.fr⟩
  · show r.steps < r.steps + 1; omega
  · show r.steps + 1 ≤ E.M; omega
theorem fork_eq {E : Ev7} {r : Rs} {t : Ts} (hg : goesB E.M r t) (h9 : (ins7 E.p t).o = 9) (hd : ¬ E.p.depth ≤ depK t.key) (hf : ¬ 1000 ≤ t.forks) : ev7 E.p E.M r t = ev7 E.p E.M (told (ev7 E.p E.M (forkR (up1 r)) (kidT E.p chY t)).1 (ins7 E.p t).b (rg t (ins7 E.p t).c) (kidK chY t) (ev7 E.p E.M (forkR (up1 r)) (kidT E.p chY t)).2.e) (forkT (down1 t) (ins7 E.p t).a (ev7 E.p E.M (forkR (up1 r)) (kidT E.p chY t)).2.e) := by
  unfold ev7
  rw [evP_step E.p E.M depK chY hg]; unfold bodyP; rw [if_pos h9, if_neg hd, if_neg hf]
  rfl
theorem on_fork {E : Ev7} {n : Nat} {w w2 w' : World} {d : Wd} {bt : Nat} {cv : Value} {r : Rs} {t : Ts} {tk : Ky} {e : Ending} (h : Pre7 E w d bt cv r t tk) (hbd : Bd d) (hg : goesB E.M r t) {a b c : Nat} (hx : ins7 E.p t = ⟨9, a, b, c⟩) (hF : Fr7 E (some bt) w w2) (hq : FkPost E n bt cv w2 { d with st := d.st + 1 } r t a b c e w') : On7 E bt cv w d r t tk e w' ∨ Ov7 E (n + 1) bt cv w d r t e w' := by
  have h9 : (ins7 E.p t).o = 9 := by rw [hx]
  have h1 := hg.2.2.2
  unfold FkPost at hq
  by_cases hd : E.p.depth ≤ depK t.key
  · rw [if_pos hd] at hq
    refine .inl (on_end h hbd hg (by decide) (by decide) h9 ?_ hF hq)
    unfold ev7
    rw [evP_step E.p E.M depK chY hg]; unfold bodyP; rw [if_pos h9, if_pos hd]
  · rw [if_neg hd] at hq
    by_cases hf : 1000 ≤ t.forks
    · rw [if_pos hf] at hq
      refine .inl (on_end h hbd hg (by decide) (by decide) h9 ?_ hF hq)
      unfold ev7
      rw [evP_step E.p E.M depK chY hg]; unfold bodyP; rw [if_pos h9, if_neg hd, if_pos hf]
    · rw [if_neg hf] at hq
      obtain ⟨en, d', rfl, k1, k2, k3, k4, k5⟩ := hq
      obtain ⟨kk, q1, -, -, q3, q4, q5, -, -, -, -, q6, q7⟩ := kid_key h.hp h.st hd hf
      have hkid := kid_st h.hp h.st hg.1 h9 q1 q3 q4 q6 q7
      have hE := fork_eq hg h9 hd hf
      have hkT : kidT E.p chY t = ts0 b (rg t c) (kidK chY t) E.p.fuel.toNat := by
        unfold kidT kidK
        rw [hx]
        rfl
      rw [hkT] at hE hkid
      rw [hx] at hE
      simp only at hE
      unfold Was7 at k5
      generalize hC : ev7 E.p E.M (forkR (up1 r)) (ts0 b (rg t c) (kidK chY t) E.p.fuel.toNat) = cc at *
      rcases k5 with ⟨o1, rfl, o3, Z, o4, o5⟩ | ⟨o1, o2, o3, o4⟩
      · left
        have hfin := ev_fin h.hp E.M E.M (forkR (up1 r)) _ kk (by omega) hkid hg.2.1 (by rw [hC]; exact o1)
        rw [hC] at hfin
        have hN := fork_st h.hp h.st hg.1 h9 hf q4 q5 q7 hfin o1
        rw [hx, ← q3] at hN
        simp only at hN
        have hm := evP_mono E.p E.M depK chY (forkR (up1 r)) (ts0 b (rg t c) (kidK chY t) E.p.fuel.toNat)
        have hl := ev_le (p := E.p) (M := E.M) E.M (forkR (up1 r)) (ts0 b (rg t c) (kidK chY t) E.p.fuel.toNat) (by omega) (by show r.steps + 1 ≤ E.M; omega)
        rw [hC] at hl
        have hC2 : evP E.p E.M depK chY (forkR (up1 r)) (ts0 b (rg t c) (kidK chY t) E.p.fuel.toNat) = cc := hC
        rw [hC2] at hm
        have e1 : (forkR (up1 r)).steps = r.steps + 1 := rfl
        refine ⟨_, _, d', Z, hE, by rw [(told_steps _ _ _ _ _).1]; omega, by rw [(told_steps _ _ _ _ _).1]; omega, hN, (told_steps _ _ _ _ _).2.trans o1, rfl, o3, k4, o4, o5, .inl ⟨hg.1, rfl, k2⟩, k1, hF.trans k3⟩
      · right
        refine ⟨?_, rfl, d', _, k1, k2, hF.trans k3, k4, ?_, o2, by omega, o4⟩
        · rw [hE, ev7, over_stays E.p depK chY E.M _ ((told_steps _ _ _ _ _).2.trans o1)]
        · have := h.st.fuel
          show t.fuel - 1 ≤ 500
          omega
theorem step_any {E : Ev7} {n : Nat} (ih : ∀ m, m < n → RunsOk E m) {w : World} {d : Wd} {bt : Nat} {cv : Value} {r : Rs} {t : Ts} {tk : Ky} (h : Pre7 E w d bt cv r t tk) (hbd : Bd d) (h0 : t.e.h = 0) (ho : r.over = false) (hle : r.steps ≤ E.M) (hn : E.M - r.steps ≤ n) : Calls Tryd.prog 51 #[.pointer (some ⟨bt, 0, none⟩)] w fun e w' => StPost E n bt cv w d r t tk e w' := by
  by_cases hf : t.fuel = 0
  · refine (step_fuel h.ht hf).mono ?_
    rintro e w' ⟨rfl, rfl⟩
    exact .inl ⟨hf, rfl, rfl⟩
  · by_cases hM : E.M ≤ r.steps
    · have hst := h.mt.st
      have h20 := h.hM
      refine (step_over h.hw h.ht hf h.st.fuel (by omega) (by omega)).mono ?_
      rintro e w' ⟨rfl, h1, h2⟩
      exact .inr (.inl ⟨hf, hM, rfl, h1, h2⟩)
    · have hg : goesB E.M r t := ⟨h0, ho, hf, by omega⟩
      by_cases h9 : (ins7 E.p t).o = 9
      · obtain ⟨m, rfl⟩ : ∃ m, n = m + 1 := ⟨n - 1, by omega⟩
        refine (step_9 (ih m (by omega)) hbd hn h hg h9).mono ?_
        rintro e w' ⟨w2, a, b, c, hx, hF, hq⟩
        exact .inr (.inr ⟨hg, on_fork h hbd hg hx hF hq⟩)
      · have hsh := shape_facts ((h.hp.fn _ h.st.fnm).2.2.2 _ (h.st.insm h0)).1
        have hall : Calls Tryd.prog 51 #[.pointer (some ⟨bt, 0, none⟩)] w fun e w' => StOne E bt cv w d r t e w' := by
          have h1 := hsh.o1
          have h15 := hsh.o15
          rcases (by omega : (ins7 E.p t).o = 1 ∨ (ins7 E.p t).o = 2 ∨ (ins7 E.p t).o = 3 ∨ (ins7 E.p t).o = 4 ∨ (ins7 E.p t).o = 5 ∨ (ins7 E.p t).o = 6 ∨ (ins7 E.p t).o = 7 ∨ (ins7 E.p t).o = 8 ∨ (ins7 E.p t).o = 10 ∨ (ins7 E.p t).o = 11 ∨ (ins7 E.p t).o = 12 ∨ (ins7 E.p t).o = 13 ∨ (ins7 E.p t).o = 14 ∨ (ins7 E.p t).o = 15) with k | k | k | k | k | k | k | k | k | k | k | k | k | k
          · exact step_1 h hg k
          · exact step_2 h hg k
          · exact step_3 h hg k
          · exact step_4 h hg k
          · exact step_5 h hg k
          · exact step_6 h hg k
          · exact step_7 h hg k
          · exact step_8 h hg k
          · exact step_10 h hg k
          · exact step_11 h hg k
          · exact step_12 h hg k
          · exact step_13 h hg k
          · exact step_14 h hg k
          · exact step_15 h hg k
        refine hall.mono ?_
        intro e w' hs
        exact .inr (.inr ⟨hg, .inl (on_one h hbd hg h9 hs)⟩)
end Go.Proofs.YtpmapdialjdcbaaDoor
namespace Go.Proofs.YtpmapdialjdcbaaDoor
open Go.RowKit
open C2 (In Pr SlF SlI InsAt still_of_below below_then)
open K6 (Ky)

/-- the loop under way: as the evaluator goes, or over -/
def Lp7 (E : Ev7) (n bt : Nat) (cv : Value) (w0 : World) (d0 : Wd) (r0 : Rs) (t0 : Ts) (tk : Ky) (wr : World) : Prop :=
  (∃ r t d Z, Pre7 E wr d bt cv r t tk ∧ t.e.h = 0 ∧ r.over = false ∧ r.steps ≤ E.M ∧ E.M - r.steps ≤ n ∧ Bd d ∧ ev7 E.p E.M r0 t0 = ev7 E.p E.M r t ∧ d.C = d0.C ++ Z ∧ r.ran = r0.ran ++ Z ∧ Fr7 E (some bt) w0 wr) ∨
  (∃ d t, (ev7 E.p E.M r0 t0).1.over = true ∧ Wh E wr d ∧ Tk7 E wr bt cv t ∧ t.fuel ≤ 500 ∧ Bd d ∧ E.M < d.st ∧ d.st ≤ E.M + n ∧ d0.C.length ≤ d.C.length ∧ Fr7 E (some bt) w0 wr)
/-- how it ends -/
def En7 (E : Ev7) (n bt : Nat) (w0 : World) (d0 : Wd) (r0 : Rs) (t0 : Ts) (en : En) (w' : World) : Prop :=
  ∃ d', Wh E w' d' ∧ Fr7 E (some bt) w0 w' ∧ Bd d' ∧ (((ev7 E.p E.M r0 t0).1.over = false ∧ en = (ev7 E.p E.M r0 t0).2.e ∧ Mt d' (ev7 E.p E.M r0 t0).1 ∧ ∃ Z, d'.C = d0.C ++ Z ∧ (ev7 E.p E.M r0 t0).1.ran = r0.ran ++ Z) ∨ ((ev7 E.p E.M r0 t0).1.over = true ∧ E.M < d'.st ∧ d'.st ≤ E.M + 1 + n ∧ d0.C.length ≤ d'.C.length))
def mu7 (E : Ev7) (wr : World) : Nat := E.M + 1 - (intOf ((wr.cell? ⟨E.bw, 5, none⟩).getD (.int .i64 0))).toNat
theorem mu_at {E : Ev7} {w : World} {d : Wd} (h : Wh E w d) : mu7 E w = E.M + 1 - d.st := by
  unfold mu7
  rw [h.cellsAt 5]
  rfl
/-- one round: it goes on, nearer to its end; or it ends -/
theorem round7 {E : Ev7} {n : Nat} (ih : ∀ m, m < n → RunsOk E m) (hM : E.M ≤ 20000) (hnM : n ≤ 20000) {bt : Nat} {cv : Value} {w0 wr : World} {d0 : Wd} {r0 : Rs} {t0 : Ts} {tk : Ky} (h : Lp7 E n bt cv w0 d0 r0 t0 tk wr) :
    Calls Tryd.prog 51 #[.pointer (some ⟨bt, 0, none⟩)] wr fun e w' => (e = .returned (.tuple #[]) ∧ Lp7 E n bt cv w0 d0 r0 t0 tk w' ∧ mu7 E w' < mu7 E wr) ∨ ∃ en, e = pan en ∧ En7 E n bt w0 d0 r0 t0 en w' := by
  rcases h with ⟨r, t, d, Z, hP, h0, ho, hle, hn, hbd, hev, hC, hR, hF⟩ | ⟨d, t, ho, hw, ht, hf, hbd, h1, h2, hcl, hF⟩
  · have hst := hP.mt.st
    have hmu := mu_at hP.hw
    refine (step_any ih hP hbd h0 ho hle hn).mono ?_
    intro e w' hq
    rcases hq with ⟨f0, rfl, rfl⟩ | ⟨f0, fM, rfl, hw', hF'⟩ | ⟨hg, hq⟩
    · right
      have e1 : ev7 E.p E.M r t = (r, t.ends 5) := evP_fuel E.p E.M depK chY h0 ho f0
      refine ⟨_, rfl, d, hP.hw, hF, hbd, .inl ⟨by rw [hev, e1]; exact ho, ?_, by rw [hev, e1]; exact hP.mt, Z, hC, by rw [hev, e1]; exact hR⟩⟩
      rw [hev, e1]
      simp only [Ts.ends, en_zero hP.st.tok h0]
      rfl
    · right
      have e1 : ev7 E.p E.M r t = ({ r with over := true }, t) := evP_over E.p E.M depK chY h0 ho f0 fM
      have hc := hbd.c
      have hk := hbd.k
      exact ⟨_, rfl, _, hw', hF.trans hF', ⟨by simp only; omega, by simp only; omega⟩, .inr ⟨by rw [hev, e1], by simp only; omega, by simp only; omega, by simp only; rw [hC, List.length_append]; omega⟩⟩
    · rcases hq with ⟨r', t', d', Z', k1, k2, k3, k4, k5, k6, k7, k8, k9, k10, hsp⟩ | ⟨k1, rfl, d', t', k2, k3, k4, k5, k6, k7, k8, k9⟩
      · have hst' := k7.st
        rcases hsp.how with ⟨g1, rfl, g3⟩ | ⟨g1, rfl⟩
        · left
          refine ⟨rfl, .inl ⟨r', t', d', Z ++ Z', ⟨hP.hp, hP.hM, hsp.wh, g3, by rw [k6]; exact hP.hcv, k4, k7⟩, g1, k5, k3, by omega, k8, hev.trans k1, by rw [k9, hC, List.append_assoc], by rw [k10, hR, List.append_assoc], hF.trans hsp.fr⟩, ?_⟩
          rw [mu_at hsp.wh, hmu]
          omega
        · right
          have e1 : ev7 E.p E.M r' t' = (r', t') := evP_end E.p E.M depK chY (.inl g1)
          exact ⟨_, rfl, d', hsp.wh, hF.trans hsp.fr, k8, .inl ⟨by rw [hev, k1, e1]; exact k5, by rw [hev, k1, e1], by rw [hev, k1, e1]; exact k7, Z ++ Z', by rw [k9, hC, List.append_assoc], by rw [hev, k1, e1]; simp only; rw [k10, hR, List.append_assoc]⟩⟩
      · left
        refine ⟨rfl, .inr ⟨d', t', by rw [hev]; exact k1, k2, k3, k6, k5, k7, k8, by rw [hC, List.length_append] at k9; omega, hF.trans k4⟩, ?_⟩
        have h4 := hg.2.2.2
        rw [mu_at k2, hmu]
        omega
  · by_cases hf0 : t.fuel = 0
    · refine (step_fuel ht hf0).mono ?_
      rintro e w' ⟨rfl, rfl⟩
      exact .inr ⟨_, rfl, d, hw, hF, hbd, .inr ⟨ho, h1, by omega, hcl⟩⟩
    · refine (step_over hw ht hf0 hf (by omega) (by omega)).mono ?_
      rintro e w' ⟨rfl, hw', hF'⟩
      have hc := hbd.c
      have hk := hbd.k
      exact .inr ⟨_, rfl, _, hw', hF.trans hF', ⟨by simp only; omega, by simp only; omega⟩, .inr ⟨ho, by simp only; omega, by simp only; omega, hcl⟩⟩
def ToPost (E : Ev7) (n bt : Nat) (w0 : World) (d0 : Wd) (r0 : Rs) (t0 : Ts) (e : Ending) (w' : World) : Prop := ∃ en, e = .returned (endV en) ∧ En7 E n bt w0 d0 r0 t0 en w'
theorem toEnd_any {E : Ev7} {n : Nat} (ih : ∀ m, m < n → RunsOk E m) (hM : E.M ≤ 20000) (hnM : n ≤ 20000) {bt : Nat} {cv : Value} {w : World} {d0 : Wd} {r0 : Rs} {t0 : Ts} {tk : Ky} (hP : Pre7 E w d0 bt cv r0 t0 tk) (h0 : t0.e.h = 0) (ho : r0.over = false) (hle : r0.steps ≤ E.M) (hn : E.M - r0.steps ≤ n) (hbd : Bd d0) :
    Calls Tryd.prog 31 #[.pointer (some ⟨bt, 0, none⟩)] w fun e w' => ToPost E n bt w d0 r0 t0 e w' := by
  have hmf : ∀ (fn : Fn) (first cap : Array Value) (w : World), (Instr.makeFunc fn first cap).run Tryd.prog w = .ok (.func fn first cap) w := fun _ _ _ _ => rfl
  have hlt := hP.ht.lt
  have hsz := hP.hw.size
  have hnx : ¬ Ex E w.heap.size := fun hk => by have := (hP.hw.exlo hk).2; omega
  have hL : Lp7 E n bt cv (w.alloc (.cells #[.int .i64 0, .int .i64 0] 29)) d0 r0 t0 tk (w.alloc (.cells #[.int .i64 0, .int .i64 0] 29)) := .inl ⟨r0, t0, d0, [], ⟨hP.hp, hP.hM, hP.hw.alloc _, hP.ht.alloc _, hP.hcv, hP.st, hP.mt⟩, h0, ho, hle, hn, hbd, rfl, by rw [List.append_nil], by rw [List.append_nil], Fr7.refl _ _ _⟩
  have hbox : (w.alloc (.cells #[.int .i64 0, .int .i64 0] 29)).heap[w.heap.size]? = some (.cells #[.int .i64 0, .int .i64 0] 29 (0, 0)) := heap_alloc_new _ _
  have HF0 : Hid (Fr7 E (some bt) w (w.alloc (.cells #[.int .i64 0, .int .i64 0] 29))) := (Fr7.refl _ _ _).alloc hsz _
  have hz0 : (w.alloc (.cells #[.int .i64 0, .int .i64 0] 29)).heap.size = w.heap.size + 1 := by simp
  obtain ⟨w0, hw0⟩ : ∃ w0, w.alloc (.cells #[.int .i64 0, .int .i64 0] 29) = w0 := ⟨_, rfl⟩
  rw [hw0] at hL hbox HF0 hz0
  have HR : Hid (∀ wr, Lp7 E n bt cv w0 d0 r0 t0 tk wr → Calls Tryd.prog 51 #[.pointer (some ⟨bt, 0, none⟩)] wr fun e w' => (e = .returned (.tuple #[]) ∧ Lp7 E n bt cv w0 d0 r0 t0 tk w' ∧ mu7 E w' < mu7 E wr) ∨ ∃ en, e = pan en ∧ En7 E n bt w0 d0 r0 t0 en w') := fun wr h => round7 ih hM hnM h
  have HB : Hid (w0.heap[w.heap.size]? = some (.cells #[.int .i64 0, .int .i64 0] 29 (0, 0)) ∧ w0.heap.size = w.heap.size + 1 ∧ ¬ Ex E w.heap.size ∧ bt ≠ w.heap.size ∧ E.W0.heap.size ≤ w.heap.size) := ⟨hbox, hz0, hnx, by omega, hsz⟩
  clear hP h0 ho hle hn hbd hbox hz0 hnx hsz
  go_enter_defers Tryd.func31, Tryd.ntmps31
  go_wp2_with fail
  clear hw0
  go_loopw [] (fun wr => Lp7 E n bt cv w0 d0 r0 t0 tk wr) (fun wr => mu7 E wr)
  case atStart => exact hL
  case round =>
    go_wp2_with fail
    refine (HR.out _ hrel).mono ?_
    rintro e w' hq
    rcases hq with ⟨rfl, hl, hmu⟩ | ⟨en, rfl, hen⟩
    · go_wp2_with fail
      go_roundw
      case measure => exact hmu
      case rel => exact hl
    · go_wp2_with fail
      obtain ⟨d', hw', hF', hbd', hcase⟩ := hen
      obtain ⟨hbox, hz0, hnx, hbn, hsz⟩ := HB.out
      have hg := (hF'.mid w.heap.size (by omega) hnx (by simpa using hbn) (fun cs fz e => by rw [hbox] at e; simp at e)).trans hbox
      refine leaves_cons (f := 50) (args := #[.pointer (some ⟨w.heap.size, 0, none⟩)]) (by simp) (by simp [go_sem]) ?_
      refine (kept_any w.heap.size 0 0 en [] _ _ hg).mono ?_
      rintro e u' w'' ⟨rfl, rfl, rfl⟩
      have hg2 : (w'.setCell ⟨w.heap.size, 0, none⟩ (.int .i64 en.h)).heap[w.heap.size]? = some (.cells #[.int .i64 en.h, .int .i64 0] 29 (0, 0)) := by rw [heap_setCell_same _ _ _ _ _ _ hg]; rfl
      have hg3 : ((w'.setCell ⟨w.heap.size, 0, none⟩ (.int .i64 en.h)).setCell ⟨w.heap.size, 1, none⟩ (.int .i64 en.v)).heap[w.heap.size]? = some (.cells #[.int .i64 en.h, .int .i64 en.v] 29 (0, 0)) := by rw [heap_setCell_same _ _ _ _ _ _ hg2]; rfl
      have hW2 := (hw'.setOther hg (by decide) (by decide) (by decide) (by decide) hsz 0 (.int .i64 en.h)).setOther hg2 (by decide) (by decide) (by decide) (by decide) hsz 1 (.int .i64 en.v)
      have hF2 : Fr7 E (some bt) w ((w'.setCell ⟨w.heap.size, 0, none⟩ (.int .i64 en.h)).setCell ⟨w.heap.size, 1, none⟩ (.int .i64 en.v)) := ((HF0.out.trans hF').setNew (Nat.le_refl _) hsz 0 _).setNew (Nat.le_refl _) hsz 1 _
      have hg4 := (Below.heap_alloc _ (.cells #[.int .i64 en.h, .int .i64 en.v] 100) _ (lt_of_block hg3)).trans hg3
      have hW4 := hW2.alloc (.cells #[.int .i64 en.h, .int .i64 en.v] 100)
      have hF4 := hF2.alloc hW2.size (.cells #[.int .i64 en.h, .int .i64 en.v] 100)
      generalize ((w'.setCell ⟨w.heap.size, 0, none⟩ (.int .i64 en.h)).setCell ⟨w.heap.size, 1, none⟩ (.int .i64 en.v)).alloc (.cells #[.int .i64 en.h, .int .i64 en.v] 100) = w5 at *
      have e0 := cell_of_row w5 w.heap.size 0 _ _ _ hg4
      have e1 := cell_of_row w5 w.heap.size 1 _ _ _ hg4
      simp at e0 e1
      have hT : ToPost E n bt w d0 r0 t0 (.returned (endV en)) w5 := ⟨en, rfl, d', hW4, hF4, hbd', hcase⟩
      simp [Leaves, settle, results, Tryd.results31, go_sem, e0, e1]
      exact hT
end Go.Proofs.YtpmapdialjdcbaaDoor
namespace Go.Proofs.YtpmapdialjdcbaaDoor
open Go.RowKit
open C2 (In Pr SlF SlI InsAt still_of_below below_then)
open K6 (Ky)

theorem own_setK {w : World} {B e s n g cap : Nat} {xs : List Value} (h : w.ownsRow B e s (.slice (some ⟨g, 0, none⟩) n cap) n xs) (k : Nat) (v : Value) : (w.setCell ⟨g, k, none⟩ v).ownsRow B e s (.slice (some ⟨g, 0, none⟩) n cap) n (xs.set k v) := by
  rcases h.2 with ⟨h0, _⟩ | ⟨g', cap', cur, h0, h1, h2, h3, h4, h5, h6⟩
  · cases h0
  · cases h0
    refine ⟨by simp [h.1], .inr ⟨g, cap, cur.setIfInBounds k v, rfl, h1, ?_, h3, h4, by simp [h5], ?_⟩⟩
    · rw [heap_setCell_same _ _ _ _ _ _ h2]
    · rw [Array.toList_setIfInBounds, ← h6, List.take_set]
theorem cellsR_mid (A : List Rn) (x : Rn) (Y : List Rn) : cellsR (A ++ x :: Y) = cellsR A ++ (rnC x ++ cellsR Y) := by simp [cellsR]
theorem cellsR_end (A : List Rn) (x : Rn) (Y : List Rn) (h v : Int) : ((cellsR (A ++ x :: Y)).set (A.length * 5 + 3) (.int .i64 h)).set (A.length * 5 + 4) (.int .i64 v) = cellsR (A ++ { x with e := ⟨h, v⟩ } :: Y) := by
  rw [cellsR_mid, cellsR_mid, List.set_append_right _ _ (by rw [cellsR_length]; omega), List.set_append_right _ _ (by rw [cellsR_length]; omega), cellsR_length, show A.length * 5 + 3 - A.length * 5 = 3 by omega, show A.length * 5 + 4 - A.length * 5 = 4 by omega]
  rfl
section
variable {E : Ev7} {w w3 : World} {d : Wd}
theorem Fr7.setRan {bt : Option Nat} {a b : World} (h : Fr7 E bt a b) {g : Nat} {cs : Array Value} {fz : Nat × Nat} (hg : b.heap[g]? = some (.cells cs 60 fz)) (hl : E.W0.heap.size ≤ g) (f : Nat) (v : Value) : Fr7 E bt a (b.setCell ⟨g, f, none⟩ v) :=
  ⟨h.low.setCell (p := ⟨g, f, none⟩) hl v, fun i h1 h2 h3 h4 => by
    have e := h.mid i h1 h2 h3 h4
    rw [← e]
    refine Below.heap_setCell _ _ _ _ ?_
    rintro rfl
    exact h4 cs fz (by rw [← e]; exact hg)⟩
theorem Wh.push (h : Wh E w d) {rv' : Value} {x : Rn} (hg : w.grownBy w3 d.rv.ownBlock) (ho : w3.ownsRow E.W0.heap.size 60 5 rv' (d.C.length + 1) (cellsR d.C ++ rnC x)) :
    Wh E (w3.setCell ⟨E.bw, 7, none⟩ rv') { d with rv := rv', C := d.C ++ [x] } ∧ Fr7 E none w (w3.setCell ⟨E.bw, 7, none⟩ rv') := by
  have hlo := h.lo
  have hsz := h.size
  have hset : ∀ b, b ≠ E.bw → (w3.setCell ⟨E.bw, 7, none⟩ rv').heap[b]? = w3.heap[b]? := fun b hb => Below.heap_setCell _ _ _ _ hb
  have hb3 := (hg.block E.bw h.lt fun e => own_typ h.ran h.box (by decide) e.symm).trans h.box
  have hB : Below E.W0.heap.size w w3 := ⟨hg.os, hg.tape, hg.output, hg.size, fun k hk => hg.block k (by omega) fun e => by have := (h.ran.lt k e.symm).1; omega⟩
  refine ⟨⟨(h.base.trans hB).setCell (p := ⟨E.bw, 7, none⟩) hlo _, hlo, ?_, ?_, ?_, ?_, h.fns⟩, ⟨hB.setCell (p := ⟨E.bw, 7, none⟩) hlo _, fun k h1 h2 _ h4 => ?_⟩⟩
  · rw [heap_setCell_same _ _ _ _ _ _ hb3]
    rfl
  · simp only
    rw [List.length_append, cellsR_snoc]
    exact own_same7 ho fun g hgg => hset g fun e => own_typ ho hb3 (by decide) (by rw [← e]; exact hgg)
  · refine own_same7 h.fut fun g hgg => ?_
    rw [hset g fun e => own_typ h.fut h.box (by decide) (by rw [← e]; exact hgg)]
    exact hg.block g (h.fut.lt g hgg).2 fun e => own_apart h.fut h.ran (by decide) g hgg e.symm
  · refine own_same7 h.was fun g hgg => ?_
    rw [hset g fun e => own_typ h.was h.box (by decide) (by rw [← e]; exact hgg)]
    exact hg.block g (h.was.lt g hgg).2 fun e => own_apart h.was h.ran (by decide) g hgg e.symm
  · rw [hset k fun e => h2 (.inl e)]
    refine hg.block k h1 fun e => ?_
    rcases h.ran.2 with ⟨e0, _⟩ | ⟨g, cap, cur, e0, _, hgg, _⟩
    · rw [e0] at e; simp [Value.ownBlock] at e
    · rw [e0] at e
      simp [Value.ownBlock] at e
      subst e
      exact h4 _ _ hgg
theorem Wh.endAt (h : Wh E w d) {A Y : List Rn} {x : Rn} (hC : d.C = A ++ x :: Y) : ∃ g cap, d.rv = .slice (some ⟨g, 0, none⟩) d.C.length cap ∧ E.W0.heap.size ≤ g ∧ A.length < d.C.length ∧ w.cell? ⟨g, A.length * 5 + 3, none⟩ = some (.int .i64 x.e.h) ∧ w.cell? ⟨g, A.length * 5 + 4, none⟩ = some (.int .i64 x.e.v) ∧ (∀ k, w.frozen? ⟨g, k, none⟩ = false) ∧
    (∀ hh vv, Wh E ((w.setCell ⟨g, A.length * 5 + 3, none⟩ (.int .i64 hh)).setCell ⟨g, A.length * 5 + 4, none⟩ (.int .i64 vv)) { d with C := A ++ { x with e := ⟨hh, vv⟩ } :: Y }) ∧
    (∀ hh vv bt a, Fr7 E bt a w → Fr7 E bt a ((w.setCell ⟨g, A.length * 5 + 3, none⟩ (.int .i64 hh)).setCell ⟨g, A.length * 5 + 4, none⟩ (.int .i64 vv))) := by
  have hr := h.ran
  have hlen : A.length < d.C.length := by rw [hC]; simp
  rcases hr.2 with ⟨-, h0⟩ | ⟨g, cap, cur, e0, h1, h2, h3, h4, h5, h6⟩
  · omega
  rw [e0] at hr
  have hcell : ∀ j v, (cellsR d.C)[j]? = some v → j < d.C.length * 5 → w.cell? ⟨g, j, none⟩ = some v := fun j v hv hj => by rw [hr.cellAt j hj, hv]
  have hAl := cellsR_length A
  have hgt : ∀ j, j < 5 → (cellsR d.C)[A.length * 5 + j]? = (rnC x)[j]? := fun j hj => by
    rw [hC, cellsR_mid, List.getElem?_append_right (by omega), hAl, show A.length * 5 + j - A.length * 5 = j by omega, List.getElem?_append_left (by simp [rnC]; omega)]
  have hgo : d.rv.ownBlock = some g := by rw [e0]; rfl
  refine ⟨g, cap, e0, h1, hlen, hcell _ _ (by rw [hgt 3 (by omega)]; rfl) (by omega), hcell _ _ (by rw [hgt 4 (by omega)]; rfl) (by omega), fun k => frozen_of_row w _ k _ _ h2, fun hh vv => ?_, fun hh vv bt a hF => ?_⟩
  · have hs : ∀ b, b ≠ g → ((w.setCell ⟨g, A.length * 5 + 3, none⟩ (.int .i64 hh)).setCell ⟨g, A.length * 5 + 4, none⟩ (.int .i64 vv)).heap[b]? = w.heap[b]? := fun b hb => (Below.heap_setCell _ _ _ _ hb).trans (Below.heap_setCell _ _ _ _ hb)
    refine ⟨(h.base.setCell (p := ⟨g, _, none⟩) h1 _).setCell (p := ⟨g, _, none⟩) h1 _, h.lo, (hs _ fun e => own_typ h.ran h.box (by decide) (by rw [e]; exact hgo)).trans h.box, ?_, own_same7 h.fut fun b hb => hs b fun e => own_apart h.ran h.fut (by decide) g hgo (by rw [← e]; exact hb), own_same7 h.was fun b hb => hs b fun e => own_apart h.ran h.was (by decide) g hgo (by rw [← e]; exact hb), h.fns⟩
    have k1 := own_setK (own_setK hr (A.length * 5 + 3) (.int .i64 hh)) (A.length * 5 + 4) (.int .i64 vv)
    rw [hC, cellsR_end] at k1
    simp only
    rw [e0, hC]
    simpa using k1
  · refine (hF.setRan h2 h1 _ _).setRan (cs := cur.setIfInBounds (A.length * 5 + 3) (.int .i64 hh)) (fz := (0, 0)) ?_ h1 _ _
    rw [heap_setCell_same _ _ _ _ _ _ h2]
end
end Go.Proofs.YtpmapdialjdcbaaDoor
