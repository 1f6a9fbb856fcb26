/-
  Helpers: EvA3, EvA4, EvA5, EvA6.
-/
import Derived.Test.YtpmapdialjdcbaaDoorBun382075a39a16
namespace Go.Proofs.YtpmapdialjdcbaaDoor
open Go.RowKit
open C2 (In Pr SlF SlI InsAt still_of_below below_then)
open K6 (Ky)

set_option maxHeartbeats 2000000 in
set_option maxRecDepth 4000 in
theorem step_3 {E : Ev7} {w : World} {d : Wd} {bt : Nat} {cv : Value} {r : Rs} {t : Ts} {tk : Ky} (h : Pre7 E w d bt cv r t tk) (hg : goesB E.M r t) (ho : (ins7 E.p t).o = 3) : Calls Tryd.prog 51 #[.pointer (some ⟨bt, 0, none⟩)] w fun e w' => StOne E bt cv w d r t e w' := by
  have hx := (h.hp.fn _ h.st.fnm).2.2.2 _ (h.st.insm hg.1)
  have hs := shape_facts hx.1
  have hr := V5.right_iff.1 hx.2
  obtain ⟨g, f, cap, m, rfl, hat, hm, hI⟩ := h.code hg.1
  have HSP := h.spend hg
  have HE : Hid (t.e = en0) := en_zero h.st.tok hg.1
  have hst := h.st
  have hmt := h.mt
  have hati : (t.at_ : Int) < m := by omega
  unfold StOne
  generalize hX : ins7 E.p t = x at *
  obtain ⟨xo, xa, xb, xc⟩ := x
  simp only at ho
  subst ho
  obtain ⟨a, rfl⟩ : ∃ a : Nat, xa = a := ⟨xa.toNat, by have := hs.a0; have := hs.c0; have := hs.b0; simp only at *; omega⟩
  obtain ⟨b, rfl⟩ : ∃ b : Nat, xb = b := ⟨xb.toNat, by have := hs.a0; have := hs.c0; have := hs.b0; simp only at *; omega⟩
  obtain ⟨c, rfl⟩ : ∃ c : Nat, xc = c := ⟨xc.toNat, by have := hs.a0; have := hs.c0; have := hs.b0; simp only at *; omega⟩
  have H : Hid (Pre7 E w d bt (.slice (some ⟨g, f, none⟩) m cap) r t tk) := h
  have HI : Hid (∀ w' d', Wh E w' d' → InsAt w' g (f + t.at_ * 4) ⟨3, a, b, c⟩) := hI
  have HST : Hid (St7 E.p r t tk) := hst
  have HMT : Hid (Mt d r) := hmt
  have ha : a < 8 := by have := hs.r; simp only at this; omega
  have hai : (a : Int) < 8 := by omega
  have hb : b < 8 := by have := hs.b7; simp only at this; omega
  have hbi : (b : Int) < 8 := by omega
  have hc : c < 8 := by have := hs.c7; simp only at this; omega
  have hci : (c : Int) < 8 := by omega
  have HO : Hid ((oneP (up1 r) (down1 t) ⟨3, a, b, c⟩).1 = up1 r ∧ (oneP (up1 r) (down1 t) ⟨3, a, b, c⟩).2 = (down1 t).put a (wrp ((down1 t).reg.getD b 0 - (down1 t).reg.getD c 0))) := by show _ ∧ _; constructor <;> simp [oneP, rg]
  clear h hI hst hmt hx hs hr hX
  go_enter Tryd.func51, Tryd.ntmps51
  go_wp2_with fail
  refine HSP.mono ?_
  rintro e w1 ⟨rfl, hw1, ht1, hF1⟩
  have hMid := Mid7.made (x := ⟨3, a, b, c⟩) hw1 ht1 hF1
  obtain ⟨i0, i1, i2, i3⟩ := HI.out w1 _ hw1
  have c2 := ht1.cellAt 2
  have c3 := ht1.cellAt 3
  have fz3 := ht1.frozen 3
  have hlt := ht1.lt
  simp [tkC] at c2 c3
  simp only at i0 i1 i2 i3 hMid
  have hltg : g < w1.heap.size := block_lt_of_cell i0
  clear HSP
  go_wp2_with fail
  go_region
  go_upto_region 4 with fail
  generalize hW2 : ((w1.setCell ⟨bt, 3, none⟩ (.int .i64 ((t.at_ : Int) + 1))).alloc (.cells #[.int .i64 3, .int .i64 a, .int .i64 b, .int .i64 c] 54)).drew = w2 at *
  generalize hBI : w1.heap.size = bi at *
  clear hW2 i0 i1 i2 i3 c2 c3 fz3 hlt hltg hw1 ht1 hF1 hBI
  obtain ⟨mw, mt, mf, mn, j0, j1, j2, j3⟩ := hMid
  simp only at j0 j1 j2 j3
  have mn2 : bt ≠ bi := fun e => mn e.symm
  have hE1 : Hid ((down1 t).e = en0) := HE.out
  have hlen : Hid ((down1 t).reg.length = 8) := HST.out.reg
  have hR32 : Hid (∀ x ∈ (down1 t).reg, wrp x = x) := HST.out.r32
  have cb := mt.reg hb
  have cc := mt.reg hc
  have ca := mt.reg ha
  have fa := mt.frozen (6 + a)
  have q := fun w => V1.sub_any ((down1 t).reg.getD b 0) ((down1 t).reg.getD c 0) w
  rw [v_sub (hR32.out _ (getD_mem (by rw [hlen.out]; omega) 0)) (hR32.out _ (getD_mem (by rw [hlen.out]; omega) 0))] at q
  obtain ⟨y, hy⟩ : ∃ y, wrp ((down1 t).reg.getD b 0 - (down1 t).reg.getD c 0) = y := ⟨_, rfl⟩
  have HY : Hid (wrp ((down1 t).reg.getD b 0 - (down1 t).reg.getD c 0) = y) := hy
  rw [hy] at q
  clear hy
  go_wp2_with fail
  go_region_law (go_simp; go_at_call 66; refine (q _).mono ?_; rintro e w3 ⟨rfl, rfl⟩)
  all_goals
    go_wp2_with fail
    exact bodyPost_end (v := .tuple #[]) (by simp [results, Tryd.results51, go_sem]) rfl (st_one (d' := { d with st := d.st + 1 }) HO ⟨.inl ⟨by show t.e.h = 0; rw [HE.out]; rfl, rfl, (by have h := mt.drew.setReg hlen.out ha y; rw [← HY.out] at h; rw [← HY.out]; exact h)⟩, mw.drew.setT mt.drew _ _, mf.drew.setT mt.lo _ _⟩ HMT.out.up rfl)
end Go.Proofs.YtpmapdialjdcbaaDoor
namespace Go.Proofs.YtpmapdialjdcbaaDoor
open Go.RowKit
open C2 (In Pr SlF SlI InsAt still_of_below below_then)
open K6 (Ky)

set_option maxHeartbeats 2000000 in
set_option maxRecDepth 4000 in
theorem step_4 {E : Ev7} {w : World} {d : Wd} {bt : Nat} {cv : Value} {r : Rs} {t : Ts} {tk : Ky} (h : Pre7 E w d bt cv r t tk) (hg : goesB E.M r t) (ho : (ins7 E.p t).o = 4) : Calls Tryd.prog 51 #[.pointer (some ⟨bt, 0, none⟩)] w fun e w' => StOne E bt cv w d r t e w' := by
  have hx := (h.hp.fn _ h.st.fnm).2.2.2 _ (h.st.insm hg.1)
  have hs := shape_facts hx.1
  have hr := V5.right_iff.1 hx.2
  obtain ⟨g, f, cap, m, rfl, hat, hm, hI⟩ := h.code hg.1
  have HSP := h.spend hg
  have HE : Hid (t.e = en0) := en_zero h.st.tok hg.1
  have hst := h.st
  have hmt := h.mt
  have hati : (t.at_ : Int) < m := by omega
  unfold StOne
  generalize hX : ins7 E.p t = x at *
  obtain ⟨xo, xa, xb, xc⟩ := x
  simp only at ho
  subst ho
  obtain ⟨a, rfl⟩ : ∃ a : Nat, xa = a := ⟨xa.toNat, by have := hs.a0; have := hs.c0; have := hs.b0; simp only at *; omega⟩
  obtain ⟨b, rfl⟩ : ∃ b : Nat, xb = b := ⟨xb.toNat, by have := hs.a0; have := hs.c0; have := hs.b0; simp only at *; omega⟩
  obtain ⟨c, rfl⟩ : ∃ c : Nat, xc = c := ⟨xc.toNat, by have := hs.a0; have := hs.c0; have := hs.b0; simp only at *; omega⟩
  have H : Hid (Pre7 E w d bt (.slice (some ⟨g, f, none⟩) m cap) r t tk) := h
  have HI : Hid (∀ w' d', Wh E w' d' → InsAt w' g (f + t.at_ * 4) ⟨4, a, b, c⟩) := hI
  have HST : Hid (St7 E.p r t tk) := hst
  have HMT : Hid (Mt d r) := hmt
  have ha : a < 8 := by have := hs.r; simp only at this; omega
  have hai : (a : Int) < 8 := by omega
  have hb : b < 8 := by have := hs.b7; simp only at this; omega
  have hbi : (b : Int) < 8 := by omega
  have hc : c < 8 := by have := hs.c7; simp only at this; omega
  have hci : (c : Int) < 8 := by omega
  have HO : Hid ((oneP (up1 r) (down1 t) ⟨4, a, b, c⟩).1 = up1 r ∧ (oneP (up1 r) (down1 t) ⟨4, a, b, c⟩).2 = (down1 t).put a (wrp ((down1 t).reg.getD b 0 * (down1 t).reg.getD c 0))) := by show _ ∧ _; constructor <;> simp [oneP, rg]
  clear h hI hst hmt hx hs hr hX
  go_enter Tryd.func51, Tryd.ntmps51
  go_wp2_with fail
  refine HSP.mono ?_
  rintro e w1 ⟨rfl, hw1, ht1, hF1⟩
  have hMid := Mid7.made (x := ⟨4, a, b, c⟩) hw1 ht1 hF1
  obtain ⟨i0, i1, i2, i3⟩ := HI.out w1 _ hw1
  have c2 := ht1.cellAt 2
  have c3 := ht1.cellAt 3
  have fz3 := ht1.frozen 3
  have hlt := ht1.lt
  simp [tkC] at c2 c3
  simp only at i0 i1 i2 i3 hMid
  have hltg : g < w1.heap.size := block_lt_of_cell i0
  clear HSP
  go_wp2_with fail
  go_region
  go_upto_region 4 with fail
  generalize hW2 : ((w1.setCell ⟨bt, 3, none⟩ (.int .i64 ((t.at_ : Int) + 1))).alloc (.cells #[.int .i64 4, .int .i64 a, .int .i64 b, .int .i64 c] 54)).drew = w2 at *
  generalize hBI : w1.heap.size = bi at *
  clear hW2 i0 i1 i2 i3 c2 c3 fz3 hlt hltg hw1 ht1 hF1 hBI
  obtain ⟨mw, mt, mf, mn, j0, j1, j2, j3⟩ := hMid
  simp only at j0 j1 j2 j3
  have mn2 : bt ≠ bi := fun e => mn e.symm
  have hE1 : Hid ((down1 t).e = en0) := HE.out
  have hlen : Hid ((down1 t).reg.length = 8) := HST.out.reg
  have hR32 : Hid (∀ x ∈ (down1 t).reg, wrp x = x) := HST.out.r32
  have cb := mt.reg hb
  have cc := mt.reg hc
  have ca := mt.reg ha
  have fa := mt.frozen (6 + a)
  have q := fun w => V1.mul_any ((down1 t).reg.getD b 0) ((down1 t).reg.getD c 0) w
  rw [v_mul (hR32.out _ (getD_mem (by rw [hlen.out]; omega) 0)) (hR32.out _ (getD_mem (by rw [hlen.out]; omega) 0))] at q
  obtain ⟨y, hy⟩ : ∃ y, wrp ((down1 t).reg.getD b 0 * (down1 t).reg.getD c 0) = y := ⟨_, rfl⟩
  have HY : Hid (wrp ((down1 t).reg.getD b 0 * (down1 t).reg.getD c 0) = y) := hy
  rw [hy] at q
  clear hy
  go_wp2_with fail
  go_region_law (go_simp; go_at_call 67; refine (q _).mono ?_; rintro e w3 ⟨rfl, rfl⟩)
  all_goals
    go_wp2_with fail
    exact bodyPost_end (v := .tuple #[]) (by simp [results, Tryd.results51, go_sem]) rfl (st_one (d' := { d with st := d.st + 1 }) HO ⟨.inl ⟨by show t.e.h = 0; rw [HE.out]; rfl, rfl, (by have h := mt.drew.setReg hlen.out ha y; rw [← HY.out] at h; rw [← HY.out]; exact h)⟩, mw.drew.setT mt.drew _ _, mf.drew.setT mt.lo _ _⟩ HMT.out.up rfl)
end Go.Proofs.YtpmapdialjdcbaaDoor
namespace Go.Proofs.YtpmapdialjdcbaaDoor
open Go.RowKit
open C2 (In Pr SlF SlI InsAt still_of_below below_then)
open K6 (Ky)

set_option maxHeartbeats 2000000 in
set_option maxRecDepth 4000 in
theorem step_5 {E : Ev7} {w : World} {d : Wd} {bt : Nat} {cv : Value} {r : Rs} {t : Ts} {tk : Ky} (h : Pre7 E w d bt cv r t tk) (hg : goesB E.M r t) (ho : (ins7 E.p t).o = 5) : Calls Tryd.prog 51 #[.pointer (some ⟨bt, 0, none⟩)] w fun e w' => StOne E bt cv w d r t e w' := by
  have hx := (h.hp.fn _ h.st.fnm).2.2.2 _ (h.st.insm hg.1)
  have hs := shape_facts hx.1
  have hr := V5.right_iff.1 hx.2
  obtain ⟨g, f, cap, m, rfl, hat, hm, hI⟩ := h.code hg.1
  have HSP := h.spend hg
  have HE : Hid (t.e = en0) := en_zero h.st.tok hg.1
  have hst := h.st
  have hmt := h.mt
  have hati : (t.at_ : Int) < m := by omega
  unfold StOne
  generalize hX : ins7 E.p t = x at *
  obtain ⟨xo, xa, xb, xc⟩ := x
  simp only at ho
  subst ho
  obtain ⟨a, rfl⟩ : ∃ a : Nat, xa = a := ⟨xa.toNat, by have := hs.a0; have := hs.c0; have := hs.b0; simp only at *; omega⟩
  obtain ⟨b, rfl⟩ : ∃ b : Nat, xb = b := ⟨xb.toNat, by have := hs.a0; have := hs.c0; have := hs.b0; simp only at *; omega⟩
  obtain ⟨c, rfl⟩ : ∃ c : Nat, xc = c := ⟨xc.toNat, by have := hs.a0; have := hs.c0; have := hs.b0; simp only at *; omega⟩
  have H : Hid (Pre7 E w d bt (.slice (some ⟨g, f, none⟩) m cap) r t tk) := h
  have HI : Hid (∀ w' d', Wh E w' d' → InsAt w' g (f + t.at_ * 4) ⟨5, a, b, c⟩) := hI
  have HST : Hid (St7 E.p r t tk) := hst
  have HMT : Hid (Mt d r) := hmt
  have ha : a < 8 := by have := hs.r; simp only at this; omega
  have hb : b < 8 := by have := hs.b7; simp only at this; omega
  have hc : c < 8 := by have := hs.c7; simp only at this; omega
  have HO : Hid ((oneP (up1 r) (down1 t) ⟨5, a, b, c⟩).1 = up1 r ∧ (oneP (up1 r) (down1 t) ⟨5, a, b, c⟩).2 = if rg (down1 t) c = 0 then (down1 t).ends 2 else (down1 t).put a (wrp ((rg (down1 t) b).tdiv (rg (down1 t) c)))) := by show _ ∧ _; by_cases hz : rg (down1 t) c = 0 <;> simp [oneP, hz]
  clear h hI hst hmt hx hs hr hX
  go_enter Tryd.func51, Tryd.ntmps51
  go_wp2_with fail
  refine HSP.mono ?_
  rintro e w1 ⟨rfl, hw1, ht1, hF1⟩
  have hMid := Mid7.made (x := ⟨5, a, b, c⟩) hw1 ht1 hF1
  obtain ⟨i0, i1, i2, i3⟩ := HI.out w1 _ hw1
  have c2 := ht1.cellAt 2
  have c3 := ht1.cellAt 3
  have fz3 := ht1.frozen 3
  have hlt := ht1.lt
  simp [tkC] at c2 c3
  simp only at i0 i1 i2 i3 hMid
  have hltg : g < w1.heap.size := block_lt_of_cell i0
  clear HSP
  go_wp2_with fail
  go_region
  go_upto_region 4 with fail
  generalize hW2 : ((w1.setCell ⟨bt, 3, none⟩ (.int .i64 ((t.at_ : Int) + 1))).alloc (.cells #[.int .i64 5, .int .i64 a, .int .i64 b, .int .i64 c] 54)).drew = w2 at *
  generalize hBI : w1.heap.size = bi at *
  clear hW2 i0 i1 i2 i3 c2 c3 fz3 hlt hltg hw1 ht1 hF1 hBI
  obtain ⟨mw, mt, mf, mn, j0, j1, j2, j3⟩ := hMid
  simp only at j0 j1 j2 j3
  have mn2 : bt ≠ bi := fun e => mn e.symm
  have hE1 : Hid ((down1 t).e = en0) := HE.out
  have hlen : Hid ((down1 t).reg.length = 8) := HST.out.reg
  have hR32 : Hid (∀ x ∈ (down1 t).reg, wrp x = x) := HST.out.r32
  have q := divide_any mw mt hE1.out hlen.out hR32.out ha hb hc
  generalize (if rg (down1 t) c = 0 then (down1 t).ends 2 else (down1 t).put a (wrp ((rg (down1 t) b).tdiv (rg (down1 t) c)))) = t3 at q HO
  go_wp2_with fail
  refine q.mono ?_
  rintro e w3 ⟨hh, hw3, hF3⟩
  rcases hh with ⟨e0, rfl, ht3⟩ | ⟨e0, rfl⟩
  · go_wp2_with fail
    exact bodyPost_end (v := .tuple #[]) (by simp [results, Tryd.results51, go_sem]) rfl (st_one (d' := { d with st := d.st + 1 }) HO ⟨.inl ⟨e0, rfl, ht3⟩, hw3, mf.trans hF3⟩ HMT.out.up rfl)
  · go_wp2_with fail
    exact ⟨rfl, st_one (d' := { d with st := d.st + 1 }) HO ⟨.inr ⟨e0, rfl⟩, hw3, mf.trans hF3⟩ HMT.out.up rfl⟩
end Go.Proofs.YtpmapdialjdcbaaDoor
namespace Go.Proofs.YtpmapdialjdcbaaDoor
open Go.RowKit
open C2 (In Pr SlF SlI InsAt still_of_below below_then)
open K6 (Ky)

set_option maxHeartbeats 2000000 in
set_option maxRecDepth 4000 in
theorem step_6 {E : Ev7} {w : World} {d : Wd} {bt : Nat} {cv : Value} {r : Rs} {t : Ts} {tk : Ky} (h : Pre7 E w d bt cv r t tk) (hg : goesB E.M r t) (ho : (ins7 E.p t).o = 6) : Calls Tryd.prog 51 #[.pointer (some ⟨bt, 0, none⟩)] w fun e w' => StOne E bt cv w d r t e w' := by
  have hx := (h.hp.fn _ h.st.fnm).2.2.2 _ (h.st.insm hg.1)
  have hs := shape_facts hx.1
  have hr := V5.right_iff.1 hx.2
  obtain ⟨g, f, cap, m, rfl, hat, hm, hI⟩ := h.code hg.1
  have HSP := h.spend hg
  have HE : Hid (t.e = en0) := en_zero h.st.tok hg.1
  have hst := h.st
  have hmt := h.mt
  have hati : (t.at_ : Int) < m := by omega
  unfold StOne
  generalize hX : ins7 E.p t = x at *
  obtain ⟨xo, xa, xb, xc⟩ := x
  simp only at ho
  subst ho
  obtain ⟨a, rfl⟩ : ∃ a : Nat, xa = a := ⟨xa.toNat, by have := hs.a0; have := hs.c0; have := hs.b0; simp only at *; omega⟩
  obtain ⟨b, rfl⟩ : ∃ b : Nat, xb = b := ⟨xb.toNat, by have := hs.a0; have := hs.c0; have := hs.b0; simp only at *; omega⟩
  obtain ⟨c, rfl⟩ : ∃ c : Nat, xc = c := ⟨xc.toNat, by have := hs.a0; have := hs.c0; have := hs.b0; simp only at *; omega⟩
  have H : Hid (Pre7 E w d bt (.slice (some ⟨g, f, none⟩) m cap) r t tk) := h
  have HI : Hid (∀ w' d', Wh E w' d' → InsAt w' g (f + t.at_ * 4) ⟨6, a, b, c⟩) := hI
  have HST : Hid (St7 E.p r t tk) := hst
  have HMT : Hid (Mt d r) := hmt
  have ha : a < 8 := by have := hs.r; simp only at this; omega
  have hai : (a : Int) < 8 := by omega
  have hb : b < 8 := by have := hs.b7; simp only at this; omega
  have hbi : (b : Int) < 8 := by omega
  have hc : c < 8 := by have := hs.c7; simp only at this; omega
  have hci : (c : Int) < 8 := by omega
  have HO : Hid ((oneP (up1 r) (down1 t) ⟨6, a, b, c⟩).1 = up1 r ∧ (oneP (up1 r) (down1 t) ⟨6, a, b, c⟩).2 = (down1 t).put a (lessI ((down1 t).reg.getD b 0) ((down1 t).reg.getD c 0))) := by show _ ∧ _; constructor <;> simp [oneP, rg]
  clear h hI hst hmt hx hs hr hX
  go_enter Tryd.func51, Tryd.ntmps51
  go_wp2_with fail
  refine HSP.mono ?_
  rintro e w1 ⟨rfl, hw1, ht1, hF1⟩
  have hMid := Mid7.made (x := ⟨6, a, b, c⟩) hw1 ht1 hF1
  obtain ⟨i0, i1, i2, i3⟩ := HI.out w1 _ hw1
  have c2 := ht1.cellAt 2
  have c3 := ht1.cellAt 3
  have fz3 := ht1.frozen 3
  have hlt := ht1.lt
  simp [tkC] at c2 c3
  simp only at i0 i1 i2 i3 hMid
  have hltg : g < w1.heap.size := block_lt_of_cell i0
  clear HSP
  go_wp2_with fail
  go_region
  go_upto_region 4 with fail
  generalize hW2 : ((w1.setCell ⟨bt, 3, none⟩ (.int .i64 ((t.at_ : Int) + 1))).alloc (.cells #[.int .i64 6, .int .i64 a, .int .i64 b, .int .i64 c] 54)).drew = w2 at *
  generalize hBI : w1.heap.size = bi at *
  clear hW2 i0 i1 i2 i3 c2 c3 fz3 hlt hltg hw1 ht1 hF1 hBI
  obtain ⟨mw, mt, mf, mn, j0, j1, j2, j3⟩ := hMid
  simp only at j0 j1 j2 j3
  have mn2 : bt ≠ bi := fun e => mn e.symm
  have hE1 : Hid ((down1 t).e = en0) := HE.out
  have hlen : Hid ((down1 t).reg.length = 8) := HST.out.reg
  have hR32 : Hid (∀ x ∈ (down1 t).reg, wrp x = x) := HST.out.r32
  have cb := mt.reg hb
  have cc := mt.reg hc
  have ca := mt.reg ha
  have fa := mt.frozen (6 + a)
  have q := fun w => V1.lessv_any ((down1 t).reg.getD b 0) ((down1 t).reg.getD c 0) w
  rw [v_less (hR32.out _ (getD_mem (by rw [hlen.out]; omega) 0)) (hR32.out _ (getD_mem (by rw [hlen.out]; omega) 0))] at q
  obtain ⟨y, hy⟩ : ∃ y, lessI ((down1 t).reg.getD b 0) ((down1 t).reg.getD c 0) = y := ⟨_, rfl⟩
  have HY : Hid (lessI ((down1 t).reg.getD b 0) ((down1 t).reg.getD c 0) = y) := hy
  rw [hy] at q
  clear hy
  go_wp2_with fail
  go_region_law (go_simp; go_at_call 69; refine (q _).mono ?_; rintro e w3 ⟨rfl, rfl⟩)
  all_goals
    go_wp2_with fail
    exact bodyPost_end (v := .tuple #[]) (by simp [results, Tryd.results51, go_sem]) rfl (st_one (d' := { d with st := d.st + 1 }) HO ⟨.inl ⟨by show t.e.h = 0; rw [HE.out]; rfl, rfl, (by have h := mt.drew.setReg hlen.out ha y; rw [← HY.out] at h; rw [← HY.out]; exact h)⟩, mw.drew.setT mt.drew _ _, mf.drew.setT mt.lo _ _⟩ HMT.out.up rfl)
end Go.Proofs.YtpmapdialjdcbaaDoor
