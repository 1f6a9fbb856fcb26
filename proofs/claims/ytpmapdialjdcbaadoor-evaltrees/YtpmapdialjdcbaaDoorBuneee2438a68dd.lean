/-
  Helpers: EvA11, EvA12, EvA13, EvA14.
-/
import Derived.Test.YtpmapdialjdcbaaDoorBun382075a39a16
namespace Go.Proofs.YtpmapdialjdcbaaDoor
open Go.RowKit
open C2 (In Pr SlF SlI InsAt still_of_below below_then)
open K6 (Ky)

set_option maxHeartbeats 2000000 in
set_option maxRecDepth 4000 in
theorem step_11 {E : Ev7} {w : World} {d : Wd} {bt : Nat} {cv : Value} {r : Rs} {t : Ts} {tk : Ky} (h : Pre7 E w d bt cv r t tk) (hg : goesB E.M r t) (ho : (ins7 E.p t).o = 11) : Calls Tryd.prog 51 #[.pointer (some ⟨bt, 0, none⟩)] w fun e w' => StOne E bt cv w d r t e w' := by
  have hx := (h.hp.fn _ h.st.fnm).2.2.2 _ (h.st.insm hg.1)
  have hs := shape_facts hx.1
  have hr := V5.right_iff.1 hx.2
  obtain ⟨g, f, cap, m, rfl, hat, hm, hI⟩ := h.code hg.1
  have HSP := h.spend hg
  have HE : Hid (t.e = en0) := en_zero h.st.tok hg.1
  have hst := h.st
  have hmt := h.mt
  have hati : (t.at_ : Int) < m := by omega
  unfold StOne
  generalize hX : ins7 E.p t = x at *
  obtain ⟨xo, xa, xb, xc⟩ := x
  simp only at ho
  subst ho
  obtain ⟨a, rfl⟩ : ∃ a : Nat, xa = a := ⟨xa.toNat, by have := hs.a0; have := hs.c0; have := hs.b0; simp only at *; omega⟩
  obtain ⟨b, rfl⟩ : ∃ b : Nat, xb = b := ⟨xb.toNat, by have := hs.a0; have := hs.c0; have := hs.b0; simp only at *; omega⟩
  have H : Hid (Pre7 E w d bt (.slice (some ⟨g, f, none⟩) m cap) r t tk) := h
  have HI : Hid (∀ w' d', Wh E w' d' → InsAt w' g (f + t.at_ * 4) ⟨11, a, b, xc⟩) := hI
  have HST : Hid (St7 E.p r t tk) := hst
  have HMT : Hid (Mt d r) := hmt
  have hb : b < 8 := by have := hs.b7; simp only at this; omega
  have hfu : a < r.was.length := by have := hr.2.2.2.1 rfl; have := hst.wl; have := h.hp.u0; simp only at *; omega
  have HO : Hid ((oneP (up1 r) (down1 t) ⟨11, a, b, xc⟩).1 = (if r.was.getD a false = true then up1 r else { up1 r with was := r.was.set a true, futs := r.futs.set a (rg (down1 t) b) }) ∧ (oneP (up1 r) (down1 t) ⟨11, a, b, xc⟩).2 = (if r.was.getD a false = true then (down1 t).ends 3 else down1 t)) := by show _ ∧ _; exact one_11 r t a b xc
  clear h hI hst hmt hx hs hr hX
  go_enter Tryd.func51, Tryd.ntmps51
  go_wp2_with fail
  refine HSP.mono ?_
  rintro e w1 ⟨rfl, hw1, ht1, hF1⟩
  have hMid := Mid7.made (x := ⟨11, a, b, xc⟩) hw1 ht1 hF1
  obtain ⟨i0, i1, i2, i3⟩ := HI.out w1 _ hw1
  have c2 := ht1.cellAt 2
  have c3 := ht1.cellAt 3
  have fz3 := ht1.frozen 3
  have hlt := ht1.lt
  simp [tkC] at c2 c3
  simp only at i0 i1 i2 i3 hMid
  have hltg : g < w1.heap.size := block_lt_of_cell i0
  clear HSP
  go_wp2_with fail
  go_region
  go_upto_region 4 with fail
  generalize hW2 : ((w1.setCell ⟨bt, 3, none⟩ (.int .i64 ((t.at_ : Int) + 1))).alloc (.cells #[.int .i64 11, .int .i64 a, .int .i64 b, .int .i64 xc] 54)).drew = w2 at *
  generalize hBI : w1.heap.size = bi at *
  clear hW2 i0 i1 i2 i3 c2 c3 fz3 hlt hltg hw1 ht1 hF1 hBI
  obtain ⟨mw, mt, mf, mn, j0, j1, j2, j3⟩ := hMid
  simp only at j0 j1 j2 j3
  have mn2 : bt ≠ bi := fun e => mn e.symm
  have hE1 : Hid ((down1 t).e = en0) := HE.out
  have hlen : Hid ((down1 t).reg.length = 8) := HST.out.reg
  have hR32 : Hid (∀ x ∈ (down1 t).reg, wrp x = x) := HST.out.r32
  have hm1 := HMT.out
  have hl2 : r.futs.length = r.was.length := by rw [HST.out.fl, HST.out.wl]
  have q : Calls Tryd.prog 72 #[.pointer (some ⟨bt, 0, none⟩), .int .i64 a, .int .i64 b] w2 fun e w' => Sp E bt (.slice (some ⟨g, f, none⟩) m cap) w2 (if r.was.getD a false = true then { d with st := d.st + 1 } else { d with st := d.st + 1, ws := r.was.set a true, fu := r.futs.set a (rg (down1 t) b) }) (if r.was.getD a false = true then (down1 t).ends 3 else down1 t) e w' := by
    have := set_any mw mt hE1.out (n := a) (i := b) (by simp only; rw [hm1.ws]; exact hfu) (by simp only; rw [hm1.ws, hm1.fu]; exact hl2) hb
    simp only [hm1.ws, hm1.fu] at this ⊢
    exact this
  have hM3 : Mt (if r.was.getD a false = true then { d with st := d.st + 1 } else { d with st := d.st + 1, ws := r.was.set a true, fu := r.futs.set a (rg (down1 t) b) } : Wd) (if r.was.getD a false = true then up1 r else { up1 r with was := r.was.set a true, futs := r.futs.set a (rg (down1 t) b) }) := by
    split
    · exact HMT.out.up
    · exact ⟨rfl, rfl, by show d.st + 1 = r.steps + 1; rw [hm1.st], hm1.fk⟩
  have hC3 : (if r.was.getD a false = true then { d with st := d.st + 1 } else { d with st := d.st + 1, ws := r.was.set a true, fu := r.futs.set a (rg (down1 t) b) } : Wd).C = d.C := by split <;> rfl
  generalize (if r.was.getD a false = true then { d with st := d.st + 1 } else { d with st := d.st + 1, ws := r.was.set a true, fu := r.futs.set a (rg (down1 t) b) } : Wd) = d3 at q hM3 hC3
  generalize (if r.was.getD a false = true then (down1 t).ends 3 else down1 t) = t3 at q HO
  generalize (if r.was.getD a false = true then up1 r else { up1 r with was := r.was.set a true, futs := r.futs.set a (rg (down1 t) b) }) = r3 at hM3 HO
  clear hm1 hl2
  have HM3 : Hid (Mt d3 r3 ∧ d3.C = d.C) := ⟨hM3, hC3⟩
  clear hM3 hC3
  go_wp2_with fail
  refine q.mono ?_
  rintro e w3 ⟨hh, hw3, hF3⟩
  rcases hh with ⟨e0, rfl, ht3⟩ | ⟨e0, rfl⟩
  · go_wp2_with fail
    exact bodyPost_end (v := .tuple #[]) (by simp [results, Tryd.results51, go_sem]) rfl (st_one (d' := d3) HO ⟨.inl ⟨e0, rfl, ht3⟩, hw3, mf.trans hF3⟩ HM3.out.1 HM3.out.2)
  · go_wp2_with fail
    exact ⟨rfl, st_one (d' := d3) HO ⟨.inr ⟨e0, rfl⟩, hw3, mf.trans hF3⟩ HM3.out.1 HM3.out.2⟩
end Go.Proofs.YtpmapdialjdcbaaDoor
namespace Go.Proofs.YtpmapdialjdcbaaDoor
open Go.RowKit
open C2 (In Pr SlF SlI InsAt still_of_below below_then)
open K6 (Ky)

set_option maxHeartbeats 2000000 in
set_option maxRecDepth 4000 in
theorem step_12 {E : Ev7} {w : World} {d : Wd} {bt : Nat} {cv : Value} {r : Rs} {t : Ts} {tk : Ky} (h : Pre7 E w d bt cv r t tk) (hg : goesB E.M r t) (ho : (ins7 E.p t).o = 12) : Calls Tryd.prog 51 #[.pointer (some ⟨bt, 0, none⟩)] w fun e w' => StOne E bt cv w d r t e w' := by
  have hx := (h.hp.fn _ h.st.fnm).2.2.2 _ (h.st.insm hg.1)
  have hs := shape_facts hx.1
  have hr := V5.right_iff.1 hx.2
  obtain ⟨g, f, cap, m, rfl, hat, hm, hI⟩ := h.code hg.1
  have HSP := h.spend hg
  have HE : Hid (t.e = en0) := en_zero h.st.tok hg.1
  have hst := h.st
  have hmt := h.mt
  have hati : (t.at_ : Int) < m := by omega
  unfold StOne
  generalize hX : ins7 E.p t = x at *
  obtain ⟨xo, xa, xb, xc⟩ := x
  simp only at ho
  subst ho
  obtain ⟨a, rfl⟩ : ∃ a : Nat, xa = a := ⟨xa.toNat, by have := hs.a0; have := hs.c0; have := hs.b0; simp only at *; omega⟩
  obtain ⟨b, rfl⟩ : ∃ b : Nat, xb = b := ⟨xb.toNat, by have := hs.a0; have := hs.c0; have := hs.b0; simp only at *; omega⟩
  have H : Hid (Pre7 E w d bt (.slice (some ⟨g, f, none⟩) m cap) r t tk) := h
  have HI : Hid (∀ w' d', Wh E w' d' → InsAt w' g (f + t.at_ * 4) ⟨12, a, b, xc⟩) := hI
  have HST : Hid (St7 E.p r t tk) := hst
  have HMT : Hid (Mt d r) := hmt
  have ha : a < 8 := by have := hs.r; simp only at this; omega
  have hfu : b < r.was.length := by have := hr.2.2.2.2 rfl; have := hst.wl; have := h.hp.u0; simp only at *; omega
  have HO : Hid ((oneP (up1 r) (down1 t) ⟨12, a, b, xc⟩).1 = up1 r ∧ (oneP (up1 r) (down1 t) ⟨12, a, b, xc⟩).2 = (if r.was.getD b false = false then (down1 t).ends 4 else (down1 t).put a (r.futs.getD b 0))) := by show _ ∧ _; exact one_12 r t a b xc
  clear h hI hst hmt hx hs hr hX
  go_enter Tryd.func51, Tryd.ntmps51
  go_wp2_with fail
  refine HSP.mono ?_
  rintro e w1 ⟨rfl, hw1, ht1, hF1⟩
  have hMid := Mid7.made (x := ⟨12, a, b, xc⟩) hw1 ht1 hF1
  obtain ⟨i0, i1, i2, i3⟩ := HI.out w1 _ hw1
  have c2 := ht1.cellAt 2
  have c3 := ht1.cellAt 3
  have fz3 := ht1.frozen 3
  have hlt := ht1.lt
  simp [tkC] at c2 c3
  simp only at i0 i1 i2 i3 hMid
  have hltg : g < w1.heap.size := block_lt_of_cell i0
  clear HSP
  go_wp2_with fail
  go_region
  go_upto_region 4 with fail
  generalize hW2 : ((w1.setCell ⟨bt, 3, none⟩ (.int .i64 ((t.at_ : Int) + 1))).alloc (.cells #[.int .i64 12, .int .i64 a, .int .i64 b, .int .i64 xc] 54)).drew = w2 at *
  generalize hBI : w1.heap.size = bi at *
  clear hW2 i0 i1 i2 i3 c2 c3 fz3 hlt hltg hw1 ht1 hF1 hBI
  obtain ⟨mw, mt, mf, mn, j0, j1, j2, j3⟩ := hMid
  simp only at j0 j1 j2 j3
  have mn2 : bt ≠ bi := fun e => mn e.symm
  have hE1 : Hid ((down1 t).e = en0) := HE.out
  have hlen : Hid ((down1 t).reg.length = 8) := HST.out.reg
  have hR32 : Hid (∀ x ∈ (down1 t).reg, wrp x = x) := HST.out.r32
  have hm1 := HMT.out
  have hl2 : r.futs.length = r.was.length := by rw [HST.out.fl, HST.out.wl]
  have q : Calls Tryd.prog 73 #[.pointer (some ⟨bt, 0, none⟩), .int .i64 a, .int .i64 b] w2 fun e w' => Sp E bt (.slice (some ⟨g, f, none⟩) m cap) w2 { d with st := d.st + 1 } (if r.was.getD b false = false then (down1 t).ends 4 else (down1 t).put a (r.futs.getD b 0)) e w' := by
    have := get_any mw mt hE1.out hlen.out (n := b) (i := a) (by simp only; rw [hm1.ws]; exact hfu) (by simp only; rw [hm1.ws, hm1.fu]; exact hl2) ha
    simp only [hm1.ws, hm1.fu] at this ⊢
    exact this
  generalize (if r.was.getD b false = false then (down1 t).ends 4 else (down1 t).put a (r.futs.getD b 0)) = t3 at q HO
  clear hm1 hl2
  go_wp2_with fail
  refine q.mono ?_
  rintro e w3 ⟨hh, hw3, hF3⟩
  rcases hh with ⟨e0, rfl, ht3⟩ | ⟨e0, rfl⟩
  · go_wp2_with fail
    exact bodyPost_end (v := .tuple #[]) (by simp [results, Tryd.results51, go_sem]) rfl (st_one (d' := { d with st := d.st + 1 }) HO ⟨.inl ⟨e0, rfl, ht3⟩, hw3, mf.trans hF3⟩ HMT.out.up rfl)
  · go_wp2_with fail
    exact ⟨rfl, st_one (d' := { d with st := d.st + 1 }) HO ⟨.inr ⟨e0, rfl⟩, hw3, mf.trans hF3⟩ HMT.out.up rfl⟩
end Go.Proofs.YtpmapdialjdcbaaDoor
namespace Go.Proofs.YtpmapdialjdcbaaDoor
open Go.RowKit
open C2 (In Pr SlF SlI InsAt still_of_below below_then)
open K6 (Ky)

set_option maxHeartbeats 2000000 in
set_option maxRecDepth 4000 in
theorem step_13 {E : Ev7} {w : World} {d : Wd} {bt : Nat} {cv : Value} {r : Rs} {t : Ts} {tk : Ky} (h : Pre7 E w d bt cv r t tk) (hg : goesB E.M r t) (ho : (ins7 E.p t).o = 13) : Calls Tryd.prog 51 #[.pointer (some ⟨bt, 0, none⟩)] w fun e w' => StOne E bt cv w d r t e w' := by
  have hx := (h.hp.fn _ h.st.fnm).2.2.2 _ (h.st.insm hg.1)
  have hs := shape_facts hx.1
  have hr := V5.right_iff.1 hx.2
  obtain ⟨g, f, cap, m, rfl, hat, hm, hI⟩ := h.code hg.1
  have HSP := h.spend hg
  have HE : Hid (t.e = en0) := en_zero h.st.tok hg.1
  have hst := h.st
  have hmt := h.mt
  have hati : (t.at_ : Int) < m := by omega
  unfold StOne
  generalize hX : ins7 E.p t = x at *
  obtain ⟨xo, xa, xb, xc⟩ := x
  simp only at ho
  subst ho
  obtain ⟨a, rfl⟩ : ∃ a : Nat, xa = a := ⟨xa.toNat, by have := hs.a0; have := hs.c0; have := hs.b0; simp only at *; omega⟩
  have H : Hid (Pre7 E w d bt (.slice (some ⟨g, f, none⟩) m cap) r t tk) := h
  have HI : Hid (∀ w' d', Wh E w' d' → InsAt w' g (f + t.at_ * 4) ⟨13, a, xb, xc⟩) := hI
  have HST : Hid (St7 E.p r t tk) := hst
  have HMT : Hid (Mt d r) := hmt
  have ha : a < 4 := by have := hs.a3 (.inr rfl); simp only at this; omega
  have HO : Hid ((oneP (up1 r) (down1 t) ⟨13, a, xb, xc⟩).1 = up1 r ∧ (oneP (up1 r) (down1 t) ⟨13, a, xb, xc⟩).2 = if (down1 t).has.getD a false = false then (down1 t).ends 7 else down1 t) := by show _ ∧ _; constructor <;> simp [oneP]
  clear h hI hst hmt hx hs hr hX
  go_enter Tryd.func51, Tryd.ntmps51
  go_wp2_with fail
  refine HSP.mono ?_
  rintro e w1 ⟨rfl, hw1, ht1, hF1⟩
  have hMid := Mid7.made (x := ⟨13, a, xb, xc⟩) hw1 ht1 hF1
  obtain ⟨i0, i1, i2, i3⟩ := HI.out w1 _ hw1
  have c2 := ht1.cellAt 2
  have c3 := ht1.cellAt 3
  have fz3 := ht1.frozen 3
  have hlt := ht1.lt
  simp [tkC] at c2 c3
  simp only at i0 i1 i2 i3 hMid
  have hltg : g < w1.heap.size := block_lt_of_cell i0
  clear HSP
  go_wp2_with fail
  go_region
  go_upto_region 4 with fail
  generalize hW2 : ((w1.setCell ⟨bt, 3, none⟩ (.int .i64 ((t.at_ : Int) + 1))).alloc (.cells #[.int .i64 13, .int .i64 a, .int .i64 xb, .int .i64 xc] 54)).drew = w2 at *
  generalize hBI : w1.heap.size = bi at *
  clear hW2 i0 i1 i2 i3 c2 c3 fz3 hlt hltg hw1 ht1 hF1 hBI
  obtain ⟨mw, mt, mf, mn, j0, j1, j2, j3⟩ := hMid
  simp only at j0 j1 j2 j3
  have mn2 : bt ≠ bi := fun e => mn e.symm
  have hE1 : Hid ((down1 t).e = en0) := HE.out
  have hlen : Hid ((down1 t).reg.length = 8) := HST.out.reg
  have hR32 : Hid (∀ x ∈ (down1 t).reg, wrp x = x) := HST.out.r32
  have q := held_any mt ha
  have hT := HST.out.tok.down
  cases hb : (down1 t).has.getD a false with
  | false =>
    have e1 : hdE (down1 t) a = en0 := by unfold hdE; rw [hb]; rfl
    have hE7 : Hid (((down1 t).ends 7).e = ⟨7, 0⟩) := by show _ = _; rw [Ts.ends, hE1.out]; rfl
    rw [e1, if_pos (show en0.h = 0 from rfl)] at q
    rw [hb] at HO
    rw [if_pos rfl] at HO
    clear hb e1
    go_wp2_with fail
    refine q.mono ?_
    rintro e w3 ⟨rfl, hb3⟩
    go_wp2_with fail
    exact ⟨rfl, st_one (d' := { d with st := d.st + 1 }) HO ⟨.inr ⟨by rw [hE7.out]; decide, by rw [hE7.out]⟩, mw.below hb3, mf.trans (Fr7.of_below hb3 mw.size)⟩ HMT.out.up rfl⟩
  | true =>
    have e1 : hdE (down1 t) a = (down1 t).hand.getD a en0 := by unfold hdE; rw [hb]; rfl
    have hx := hT.hs a hb
    rw [e1, if_neg (by have := hx.1; omega)] at q
    rw [hb] at HO
    rw [if_neg (by decide)] at HO
    clear hb e1 hx hT
    go_wp2_with fail
    refine q.mono ?_
    rintro e w3 ⟨rfl, hb3⟩
    go_wp2_with fail
    exact bodyPost_end (v := .tuple #[]) (by simp [results, Tryd.results51, go_sem]) rfl (st_one (d' := { d with st := d.st + 1 }) HO ⟨.inl ⟨by show t.e.h = 0; rw [HE.out]; rfl, rfl, mt.below hb3⟩, mw.below hb3, mf.trans (Fr7.of_below hb3 mw.size)⟩ HMT.out.up rfl)
end Go.Proofs.YtpmapdialjdcbaaDoor
namespace Go.Proofs.YtpmapdialjdcbaaDoor
open Go.RowKit
open C2 (In Pr SlF SlI InsAt still_of_below below_then)
open K6 (Ky)

set_option maxHeartbeats 2000000 in
set_option maxRecDepth 4000 in
theorem step_14 {E : Ev7} {w : World} {d : Wd} {bt : Nat} {cv : Value} {r : Rs} {t : Ts} {tk : Ky} (h : Pre7 E w d bt cv r t tk) (hg : goesB E.M r t) (ho : (ins7 E.p t).o = 14) : Calls Tryd.prog 51 #[.pointer (some ⟨bt, 0, none⟩)] w fun e w' => StOne E bt cv w d r t e w' := by
  have hx := (h.hp.fn _ h.st.fnm).2.2.2 _ (h.st.insm hg.1)
  have hs := shape_facts hx.1
  have hr := V5.right_iff.1 hx.2
  obtain ⟨g, f, cap, m, rfl, hat, hm, hI⟩ := h.code hg.1
  have HSP := h.spend hg
  have HE : Hid (t.e = en0) := en_zero h.st.tok hg.1
  have hst := h.st
  have hmt := h.mt
  have hati : (t.at_ : Int) < m := by omega
  unfold StOne
  generalize hX : ins7 E.p t = x at *
  obtain ⟨xo, xa, xb, xc⟩ := x
  simp only at ho
  subst ho

  have H : Hid (Pre7 E w d bt (.slice (some ⟨g, f, none⟩) m cap) r t tk) := h
  have HI : Hid (∀ w' d', Wh E w' d' → InsAt w' g (f + t.at_ * 4) ⟨14, xa, xb, xc⟩) := hI
  have HST : Hid (St7 E.p r t tk) := hst
  have HMT : Hid (Mt d r) := hmt
  have HO : Hid ((oneP (up1 r) (down1 t) ⟨14, xa, xb, xc⟩).1 = up1 r ∧ (oneP (up1 r) (down1 t) ⟨14, xa, xb, xc⟩).2 = down1 t) := by show _ ∧ _; constructor <;> simp [oneP]
  clear h hI hst hmt hx hs hr hX
  go_enter Tryd.func51, Tryd.ntmps51
  go_wp2_with fail
  refine HSP.mono ?_
  rintro e w1 ⟨rfl, hw1, ht1, hF1⟩
  have hMid := Mid7.made (x := ⟨14, xa, xb, xc⟩) hw1 ht1 hF1
  obtain ⟨i0, i1, i2, i3⟩ := HI.out w1 _ hw1
  have c2 := ht1.cellAt 2
  have c3 := ht1.cellAt 3
  have fz3 := ht1.frozen 3
  have hlt := ht1.lt
  simp [tkC] at c2 c3
  simp only at i0 i1 i2 i3 hMid
  have hltg : g < w1.heap.size := block_lt_of_cell i0
  clear HSP
  go_wp2_with fail
  go_region
  go_upto_region 4 with fail
  generalize hW2 : ((w1.setCell ⟨bt, 3, none⟩ (.int .i64 ((t.at_ : Int) + 1))).alloc (.cells #[.int .i64 14, .int .i64 xa, .int .i64 xb, .int .i64 xc] 54)).drew = w2 at *
  generalize hBI : w1.heap.size = bi at *
  clear hW2 i0 i1 i2 i3 c2 c3 fz3 hlt hltg hw1 ht1 hF1 hBI
  obtain ⟨mw, mt, mf, mn, j0, j1, j2, j3⟩ := hMid
  simp only at j0 j1 j2 j3
  have mn2 : bt ≠ bi := fun e => mn e.symm
  have hE1 : Hid ((down1 t).e = en0) := HE.out
  have hlen : Hid ((down1 t).reg.length = 8) := HST.out.reg
  have hR32 : Hid (∀ x ∈ (down1 t).reg, wrp x = x) := HST.out.r32
  go_wp2_with fail
  exact bodyPost_end (v := .tuple #[]) (by simp [results, Tryd.results51, go_sem]) rfl (st_one (d' := { d with st := d.st + 1 }) HO ⟨.inl ⟨by show t.e.h = 0; rw [HE.out]; rfl, rfl, mt⟩, mw, mf⟩ HMT.out.up rfl)
end Go.Proofs.YtpmapdialjdcbaaDoor
