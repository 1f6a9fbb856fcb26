/-
  Helpers: EvA7, EvA8, EvA9, EvA10.
-/
import Derived.Test.YtpmapdialjdcbaaDoorBun382075a39a16
namespace Go.Proofs.YtpmapdialjdcbaaDoor
open Go.RowKit
open C2 (In Pr SlF SlI InsAt still_of_below below_then)
open K6 (Ky)

set_option maxHeartbeats 2000000 in
set_option maxRecDepth 4000 in
theorem step_7 {E : Ev7} {w : World} {d : Wd} {bt : Nat} {cv : Value} {r : Rs} {t : Ts} {tk : Ky} (h : Pre7 E w d bt cv r t tk) (hg : goesB E.M r t) (ho : (ins7 E.p t).o = 7) : Calls Tryd.prog 51 #[.pointer (some ⟨bt, 0, none⟩)] w fun e w' => StOne E bt cv w d r t e w' := by
  have hx := (h.hp.fn _ h.st.fnm).2.2.2 _ (h.st.insm hg.1)
  have hs := shape_facts hx.1
  have hr := V5.right_iff.1 hx.2
  obtain ⟨g, f, cap, m, rfl, hat, hm, hI⟩ := h.code hg.1
  have HSP := h.spend hg
  have HE : Hid (t.e = en0) := en_zero h.st.tok hg.1
  have hst := h.st
  have hmt := h.mt
  have hati : (t.at_ : Int) < m := by omega
  unfold StOne
  generalize hX : ins7 E.p t = x at *
  obtain ⟨xo, xa, xb, xc⟩ := x
  simp only at ho
  subst ho
  obtain ⟨a, rfl⟩ : ∃ a : Nat, xa = a := ⟨xa.toNat, by have := hs.a0; have := hs.c0; have := hs.b0; simp only at *; omega⟩
  have H : Hid (Pre7 E w d bt (.slice (some ⟨g, f, none⟩) m cap) r t tk) := h
  have HI : Hid (∀ w' d', Wh E w' d' → InsAt w' g (f + t.at_ * 4) ⟨7, a, xb, xc⟩) := hI
  have HST : Hid (St7 E.p r t tk) := hst
  have HMT : Hid (Mt d r) := hmt
  have HO : Hid ((oneP (up1 r) (down1 t) ⟨7, a, xb, xc⟩).1 = up1 r ∧ (oneP (up1 r) (down1 t) ⟨7, a, xb, xc⟩).2 = { down1 t with at_ := a }) := by show _ ∧ _; constructor <;> simp [oneP]
  clear h hI hst hmt hx hs hr hX
  go_enter Tryd.func51, Tryd.ntmps51
  go_wp2_with fail
  refine HSP.mono ?_
  rintro e w1 ⟨rfl, hw1, ht1, hF1⟩
  have hMid := Mid7.made (x := ⟨7, a, xb, xc⟩) hw1 ht1 hF1
  obtain ⟨i0, i1, i2, i3⟩ := HI.out w1 _ hw1
  have c2 := ht1.cellAt 2
  have c3 := ht1.cellAt 3
  have fz3 := ht1.frozen 3
  have hlt := ht1.lt
  simp [tkC] at c2 c3
  simp only at i0 i1 i2 i3 hMid
  have hltg : g < w1.heap.size := block_lt_of_cell i0
  clear HSP
  go_wp2_with fail
  go_region
  go_upto_region 4 with fail
  generalize hW2 : ((w1.setCell ⟨bt, 3, none⟩ (.int .i64 ((t.at_ : Int) + 1))).alloc (.cells #[.int .i64 7, .int .i64 a, .int .i64 xb, .int .i64 xc] 54)).drew = w2 at *
  generalize hBI : w1.heap.size = bi at *
  clear hW2 i0 i1 i2 i3 c2 c3 fz3 hlt hltg hw1 ht1 hF1 hBI
  obtain ⟨mw, mt, mf, mn, j0, j1, j2, j3⟩ := hMid
  simp only at j0 j1 j2 j3
  have mn2 : bt ≠ bi := fun e => mn e.symm
  have hE1 : Hid ((down1 t).e = en0) := HE.out
  have hlen : Hid ((down1 t).reg.length = 8) := HST.out.reg
  have hR32 : Hid (∀ x ∈ (down1 t).reg, wrp x = x) := HST.out.r32
  have c3 := mt.cellAt 3
  have f3 := mt.frozen 3
  simp [tkC] at c3
  go_wp2_with fail
  exact bodyPost_end (v := .tuple #[]) (by simp [results, Tryd.results51, go_sem]) rfl (st_one (d' := { d with st := d.st + 1 }) HO ⟨.inl ⟨by show t.e.h = 0; rw [HE.out]; rfl, rfl, mt.setAt a⟩, mw.setT mt _ _, mf.setT mt.lo _ _⟩ HMT.out.up rfl)
end Go.Proofs.YtpmapdialjdcbaaDoor
namespace Go.Proofs.YtpmapdialjdcbaaDoor
open Go.RowKit
open C2 (In Pr SlF SlI InsAt still_of_below below_then)
open K6 (Ky)

set_option maxHeartbeats 2000000 in
set_option maxRecDepth 4000 in
theorem step_8 {E : Ev7} {w : World} {d : Wd} {bt : Nat} {cv : Value} {r : Rs} {t : Ts} {tk : Ky} (h : Pre7 E w d bt cv r t tk) (hg : goesB E.M r t) (ho : (ins7 E.p t).o = 8) : Calls Tryd.prog 51 #[.pointer (some ⟨bt, 0, none⟩)] w fun e w' => StOne E bt cv w d r t e w' := by
  have hx := (h.hp.fn _ h.st.fnm).2.2.2 _ (h.st.insm hg.1)
  have hs := shape_facts hx.1
  have hr := V5.right_iff.1 hx.2
  obtain ⟨g, f, cap, m, rfl, hat, hm, hI⟩ := h.code hg.1
  have HSP := h.spend hg
  have HE : Hid (t.e = en0) := en_zero h.st.tok hg.1
  have hst := h.st
  have hmt := h.mt
  have hati : (t.at_ : Int) < m := by omega
  unfold StOne
  generalize hX : ins7 E.p t = x at *
  obtain ⟨xo, xa, xb, xc⟩ := x
  simp only at ho
  subst ho
  obtain ⟨a, rfl⟩ : ∃ a : Nat, xa = a := ⟨xa.toNat, by have := hs.a0; have := hs.c0; have := hs.b0; simp only at *; omega⟩
  obtain ⟨b, rfl⟩ : ∃ b : Nat, xb = b := ⟨xb.toNat, by have := hs.a0; have := hs.c0; have := hs.b0; simp only at *; omega⟩
  have H : Hid (Pre7 E w d bt (.slice (some ⟨g, f, none⟩) m cap) r t tk) := h
  have HI : Hid (∀ w' d', Wh E w' d' → InsAt w' g (f + t.at_ * 4) ⟨8, a, b, xc⟩) := hI
  have HST : Hid (St7 E.p r t tk) := hst
  have HMT : Hid (Mt d r) := hmt
  have ha : a < 8 := by have := hs.r; simp only at this; omega
  have hai : (a : Int) < 8 := by omega
  have HO : Hid ((oneP (up1 r) (down1 t) ⟨8, a, b, xc⟩).1 = up1 r ∧ (oneP (up1 r) (down1 t) ⟨8, a, b, xc⟩).2 = if rg (down1 t) a = 0 then { down1 t with at_ := b } else down1 t) := by show _ ∧ _; constructor <;> simp [oneP]
  clear h hI hst hmt hx hs hr hX
  go_enter Tryd.func51, Tryd.ntmps51
  go_wp2_with fail
  refine HSP.mono ?_
  rintro e w1 ⟨rfl, hw1, ht1, hF1⟩
  have hMid := Mid7.made (x := ⟨8, a, b, xc⟩) hw1 ht1 hF1
  obtain ⟨i0, i1, i2, i3⟩ := HI.out w1 _ hw1
  have c2 := ht1.cellAt 2
  have c3 := ht1.cellAt 3
  have fz3 := ht1.frozen 3
  have hlt := ht1.lt
  simp [tkC] at c2 c3
  simp only at i0 i1 i2 i3 hMid
  have hltg : g < w1.heap.size := block_lt_of_cell i0
  clear HSP
  go_wp2_with fail
  go_region
  go_upto_region 4 with fail
  generalize hW2 : ((w1.setCell ⟨bt, 3, none⟩ (.int .i64 ((t.at_ : Int) + 1))).alloc (.cells #[.int .i64 8, .int .i64 a, .int .i64 b, .int .i64 xc] 54)).drew = w2 at *
  generalize hBI : w1.heap.size = bi at *
  clear hW2 i0 i1 i2 i3 c2 c3 fz3 hlt hltg hw1 ht1 hF1 hBI
  obtain ⟨mw, mt, mf, mn, j0, j1, j2, j3⟩ := hMid
  simp only at j0 j1 j2 j3
  have mn2 : bt ≠ bi := fun e => mn e.symm
  have hE1 : Hid ((down1 t).e = en0) := HE.out
  have hlen : Hid ((down1 t).reg.length = 8) := HST.out.reg
  have hR32 : Hid (∀ x ∈ (down1 t).reg, wrp x = x) := HST.out.r32
  have c3 := mt.cellAt 3
  have f3 := mt.frozen 3
  have ca := mt.reg ha
  simp [tkC] at c3
  obtain ⟨y, hy⟩ : ∃ y, rg (down1 t) a = y := ⟨_, rfl⟩
  rw [show (down1 t).reg.getD a 0 = y from hy] at ca
  rw [hy] at HO
  clear hy
  by_cases hz : y = 0
  · subst hz
    rw [if_pos rfl] at HO
    go_wp2_with fail
    go_quiet (fail)
    go_wp2_with fail
    exact bodyPost_end (v := .tuple #[]) (by simp [results, Tryd.results51, go_sem]) rfl (st_one (d' := { d with st := d.st + 1 }) HO ⟨.inl ⟨by show t.e.h = 0; rw [HE.out]; rfl, rfl, (mt.drewN _).setAt b⟩, (mw.drewN _).setT (mt.drewN _) _ _, (mf.drewN _).setT mt.lo _ _⟩ HMT.out.up rfl)
  · rw [if_neg hz] at HO
    have hzb : (y == 0) = false := by simpa using hz
    go_wp2_with fail
    go_quiet (fail)
    go_wp2_with fail
    exact bodyPost_end (v := .tuple #[]) (by simp [results, Tryd.results51, go_sem]) rfl (st_one (d' := { d with st := d.st + 1 }) HO ⟨.inl ⟨by show t.e.h = 0; rw [HE.out]; rfl, rfl, mt.drewN _⟩, mw.drewN _, mf.drewN _⟩ HMT.out.up rfl)
end Go.Proofs.YtpmapdialjdcbaaDoor
namespace Go.Proofs.YtpmapdialjdcbaaDoor
open Go.RowKit
open C2 (In Pr SlF SlI InsAt still_of_below below_then)
open K6 (Ky)

theorem fk_e {E : Ev7} {n bt : Nat} {cv : Value} {w : World} {d : Wd} {r : Rs} {t : Ts} {a b c : Nat} {e : Ending} {w' : World} (h : FkPost E n bt cv w d r t a b c e w') : e = .returned (.tuple #[]) ∨ ∃ en, e = pan en := by
  unfold FkPost at h
  split at h
  · rcases h.how with ⟨-, h, -⟩ | ⟨-, h⟩
    · exact .inl h
    · exact .inr ⟨_, h⟩
  · split at h
    · rcases h.how with ⟨-, h, -⟩ | ⟨-, h⟩
      · exact .inl h
      · exact .inr ⟨_, h⟩
    · obtain ⟨en, d', h, -⟩ := h
      exact .inl h
set_option maxHeartbeats 2000000 in
set_option maxRecDepth 4000 in
theorem step_9 {E : Ev7} {w : World} {d : Wd} {bt : Nat} {cv : Value} {r : Rs} {t : Ts} {tk : Ky} {n : Nat} (ih : RunsOk E n) (hbd : Bd d) (hn : E.M - r.steps ≤ n + 1) (h : Pre7 E w d bt cv r t tk) (hg : goesB E.M r t) (ho : (ins7 E.p t).o = 9) : Calls Tryd.prog 51 #[.pointer (some ⟨bt, 0, none⟩)] w fun e w' => ∃ w2, ∃ a b c : Nat, ins7 E.p t = ⟨9, a, b, c⟩ ∧ Fr7 E (some bt) w w2 ∧ FkPost E n bt cv w2 { d with st := d.st + 1 } r t a b c e w' := by
  have hx := (h.hp.fn _ h.st.fnm).2.2.2 _ (h.st.insm hg.1)
  have hs := shape_facts hx.1
  have hr := V5.right_iff.1 hx.2
  obtain ⟨g, f, cap, m, rfl, hat, hm, hI⟩ := h.code hg.1
  have HSP := h.spend hg
  have HE : Hid (t.e = en0) := en_zero h.st.tok hg.1
  have hst := h.st
  have hmt := h.mt
  have hati : (t.at_ : Int) < m := by omega
  obtain ⟨x, hX⟩ : ∃ x, ins7 E.p t = x := ⟨_, rfl⟩
  rw [hX] at hx hs hr hI ho
  obtain ⟨xo, xa, xb, xc⟩ := x
  simp only at ho
  subst ho
  obtain ⟨a, rfl⟩ : ∃ a : Nat, xa = a := ⟨xa.toNat, by have := hs.a0; have := hs.c0; have := hs.b0; simp only at *; omega⟩
  obtain ⟨b, rfl⟩ : ∃ b : Nat, xb = b := ⟨xb.toNat, by have := hs.a0; have := hs.c0; have := hs.b0; simp only at *; omega⟩
  obtain ⟨c, rfl⟩ : ∃ c : Nat, xc = c := ⟨xc.toNat, by have := hs.a0; have := hs.c0; have := hs.b0; simp only at *; omega⟩
  have HP : Hid (Pre7 E w d bt (.slice (some ⟨g, f, none⟩) m cap) r t tk) := h
  have HI : Hid (∀ w' d', Wh E w' d' → InsAt w' g (f + t.at_ * 4) ⟨9, a, b, c⟩) := hI
  have HST : Hid (St7 E.p r t tk) := hst
  have HMT : Hid (Mt d r) := hmt
  have ha : a < 4 := by have := hs.a3 (.inl rfl); simp only at this; omega
  have hc : c < 8 := by have := hs.c7; simp only at this; omega
  have HX : Hid (ins7 E.p t = ⟨9, a, b, c⟩) := by exact hX
  clear h hI hst hmt hx hs hr hX
  go_enter Tryd.func51, Tryd.ntmps51
  go_wp2_with fail
  refine HSP.mono ?_
  rintro e w1 ⟨rfl, hw1, ht1, hF1⟩
  have hMid := Mid7.made (x := ⟨9, a, b, c⟩) hw1 ht1 hF1
  obtain ⟨i0, i1, i2, i3⟩ := HI.out w1 _ hw1
  have c2 := ht1.cellAt 2
  have c3 := ht1.cellAt 3
  have fz3 := ht1.frozen 3
  have hlt := ht1.lt
  simp [tkC] at c2 c3
  simp only at i0 i1 i2 i3 hMid
  have hltg : g < w1.heap.size := block_lt_of_cell i0
  clear HSP
  go_wp2_with fail
  go_region
  go_upto_region 4 with fail
  generalize hW2 : ((w1.setCell ⟨bt, 3, none⟩ (.int .i64 ((t.at_ : Int) + 1))).alloc (.cells #[.int .i64 9, .int .i64 a, .int .i64 b, .int .i64 c] 54)).drew = w2 at *
  generalize hBI : w1.heap.size = bi at *
  clear hW2 i0 i1 i2 i3 c2 c3 fz3 hlt hltg hw1 ht1 hF1 hBI
  obtain ⟨mw, mt, mf, mn, j0, j1, j2, j3⟩ := hMid
  simp only at j0 j1 j2 j3
  have mn2 : bt ≠ bi := fun e => mn e.symm
  have hE1 : Hid ((down1 t).e = en0) := HE.out
  have hlen : Hid ((down1 t).reg.length = 8) := HST.out.reg
  have hR32 : Hid (∀ x ∈ (down1 t).reg, wrp x = x) := HST.out.r32
  have hPP := HP.out.hp
  have hMM := HP.out.hM
  have hmu := HMT.out.up
  have HFK := fork_any hPP ih hMM rfl mw mt HST.out hg hmu (by have := hbd.c; simp only; omega) (by have := hbd.k; simp only; omega) (by have := HMT.out.st; omega) (a := a) (b := b) (c := c) (by rw [HX.out]) (by rw [HX.out]) (by rw [HX.out]) (by rw [HX.out]) ha hc
  clear hPP hMM hmu
  go_wp2_with fail
  refine HFK.mono ?_
  rintro e w3 hq
  rcases fk_e hq with rfl | ⟨en, rfl⟩
  · go_wp2_with fail
    exact bodyPost_end (v := .tuple #[]) (by simp [results, Tryd.results51, go_sem]) rfl ⟨w2, a, b, c, HX.out, mf, hq⟩
  · go_wp2_with fail
    exact ⟨rfl, w2, a, b, c, HX.out, mf, hq⟩
end Go.Proofs.YtpmapdialjdcbaaDoor
namespace Go.Proofs.YtpmapdialjdcbaaDoor
open Go.RowKit
open C2 (In Pr SlF SlI InsAt still_of_below below_then)
open K6 (Ky)

set_option maxHeartbeats 2000000 in
set_option maxRecDepth 4000 in
theorem step_10 {E : Ev7} {w : World} {d : Wd} {bt : Nat} {cv : Value} {r : Rs} {t : Ts} {tk : Ky} (h : Pre7 E w d bt cv r t tk) (hg : goesB E.M r t) (ho : (ins7 E.p t).o = 10) : Calls Tryd.prog 51 #[.pointer (some ⟨bt, 0, none⟩)] w fun e w' => StOne E bt cv w d r t e w' := by
  have hx := (h.hp.fn _ h.st.fnm).2.2.2 _ (h.st.insm hg.1)
  have hs := shape_facts hx.1
  have hr := V5.right_iff.1 hx.2
  obtain ⟨g, f, cap, m, rfl, hat, hm, hI⟩ := h.code hg.1
  have HSP := h.spend hg
  have HE : Hid (t.e = en0) := en_zero h.st.tok hg.1
  have hst := h.st
  have hmt := h.mt
  have hati : (t.at_ : Int) < m := by omega
  unfold StOne
  generalize hX : ins7 E.p t = x at *
  obtain ⟨xo, xa, xb, xc⟩ := x
  simp only at ho
  subst ho
  obtain ⟨a, rfl⟩ : ∃ a : Nat, xa = a := ⟨xa.toNat, by have := hs.a0; have := hs.c0; have := hs.b0; simp only at *; omega⟩
  obtain ⟨b, rfl⟩ : ∃ b : Nat, xb = b := ⟨xb.toNat, by have := hs.a0; have := hs.c0; have := hs.b0; simp only at *; omega⟩
  have H : Hid (Pre7 E w d bt (.slice (some ⟨g, f, none⟩) m cap) r t tk) := h
  have HI : Hid (∀ w' d', Wh E w' d' → InsAt w' g (f + t.at_ * 4) ⟨10, a, b, xc⟩) := hI
  have HST : Hid (St7 E.p r t tk) := hst
  have HMT : Hid (Mt d r) := hmt
  have ha : a < 8 := by have := hs.r; simp only at this; omega
  have hb : b < 4 := by have := hs.b3 rfl; simp only at this; omega
  have HO : Hid ((oneP (up1 r) (down1 t) ⟨10, a, b, xc⟩).1 = up1 r ∧ (oneP (up1 r) (down1 t) ⟨10, a, b, xc⟩).2 = joinT (down1 t) a b) := by show _ ∧ _; constructor <;> simp [oneP, joinT]
  clear h hI hst hmt hx hs hr hX
  go_enter Tryd.func51, Tryd.ntmps51
  go_wp2_with fail
  refine HSP.mono ?_
  rintro e w1 ⟨rfl, hw1, ht1, hF1⟩
  have hMid := Mid7.made (x := ⟨10, a, b, xc⟩) hw1 ht1 hF1
  obtain ⟨i0, i1, i2, i3⟩ := HI.out w1 _ hw1
  have c2 := ht1.cellAt 2
  have c3 := ht1.cellAt 3
  have fz3 := ht1.frozen 3
  have hlt := ht1.lt
  simp [tkC] at c2 c3
  simp only at i0 i1 i2 i3 hMid
  have hltg : g < w1.heap.size := block_lt_of_cell i0
  clear HSP
  go_wp2_with fail
  go_region
  go_upto_region 4 with fail
  generalize hW2 : ((w1.setCell ⟨bt, 3, none⟩ (.int .i64 ((t.at_ : Int) + 1))).alloc (.cells #[.int .i64 10, .int .i64 a, .int .i64 b, .int .i64 xc] 54)).drew = w2 at *
  generalize hBI : w1.heap.size = bi at *
  clear hW2 i0 i1 i2 i3 c2 c3 fz3 hlt hltg hw1 ht1 hF1 hBI
  obtain ⟨mw, mt, mf, mn, j0, j1, j2, j3⟩ := hMid
  simp only at j0 j1 j2 j3
  have mn2 : bt ≠ bi := fun e => mn e.symm
  have hE1 : Hid ((down1 t).e = en0) := HE.out
  have hlen : Hid ((down1 t).reg.length = 8) := HST.out.reg
  have hR32 : Hid (∀ x ∈ (down1 t).reg, wrp x = x) := HST.out.r32
  have hT := HST.out.tok.down
  have hH : (down1 t).has.length = 4 := HST.out.has
  go_wp2_with fail
  refine (join_any mw mt hE1.out hlen.out hH hT ha hb).mono ?_
  rintro e w3 ⟨hh, hw3, hF3⟩
  rcases hh with ⟨e0, rfl, ht3⟩ | ⟨e0, rfl⟩
  · go_wp2_with fail
    exact bodyPost_end (v := .tuple #[]) (by simp [results, Tryd.results51, go_sem]) rfl (st_one (d' := { d with st := d.st + 1 }) HO ⟨.inl ⟨e0, rfl, ht3⟩, hw3, mf.trans hF3⟩ HMT.out.up rfl)
  · go_wp2_with fail
    exact ⟨rfl, st_one (d' := { d with st := d.st + 1 }) HO ⟨.inr ⟨e0, rfl⟩, hw3, mf.trans hF3⟩ HMT.out.up rfl⟩
end Go.Proofs.YtpmapdialjdcbaaDoor
