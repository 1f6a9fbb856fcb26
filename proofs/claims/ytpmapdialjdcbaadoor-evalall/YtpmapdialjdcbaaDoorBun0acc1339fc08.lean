/-
  Helpers: RxA11, RxA12, RxA13, RxA14.
-/
import Derived.Test.YtpmapdialjdcbaaDoorBun382075a39a16
namespace Go.Proofs.YtpmapdialjdcbaaDoor
open Go.RowKit
open C2 (In Pr SlF SlI InsAt still_of_below below_then)

set_option maxHeartbeats 2000000 in
set_option maxRecDepth 4000 in
theorem roth_11 {E : Ev7} {w : World} {rv : Value} {r : Rs} {t : Ts} {bt a b : Nat} {c : Int} (hw : Rh E w rv r) (ht : Tr E w bt t) (hl : t.reg.length = 8) (hr : ∀ x ∈ t.reg, wrp x = x) (hh : t.has.length = 4) (hn : t.hand.length = 4) (hb : b < 8) (hfu : a < r.was.length) (hfl : r.futs.length = r.was.length) :
    Calls Tryd.prog 59 #[.pointer (some ⟨E.bw, 0, none⟩), .pointer (some ⟨bt, 0, none⟩), .agg #[.int .i64 11, .int .i64 a, .int .i64 b, .int .i64 c]] w fun e w' => ROne E bt rv w (oneP r t ⟨11, a, b, c⟩) e w' := by
  have hM := Mr.made 11 a b c hw ht
  have HO : Hid (oneP r t ⟨11, a, b, c⟩ = (if r.was.getD a false = true then (r, t.ends 3) else ({ r with was := r.was.set a true, futs := r.futs.set a (t.reg.getD b 0) }, t))) := by show _ = _; simp [oneP, rg]
  have HR : Hid (t.reg.length = 8 ∧ (∀ x ∈ t.reg, wrp x = x) ∧ t.has.length = 4 ∧ t.hand.length = 4) := ⟨hl, hr, hh, hn⟩
  clear hl hr hh hn hw ht
  go_enter Tryd.func59, Tryd.ntmps59
  go_upto_region 21 with fail
  generalize hW2 : w.alloc (.cells #[.int .i64 11, .int .i64 a, .int .i64 b, .int .i64 c] 54) = w2 at *
  generalize hBI : w.heap.size = bi at *
  clear hW2 hBI
  obtain ⟨mw, mt, mf, ml, mlw, mex, j0, j1, j2, j3⟩ := hM
  have mn : bi ≠ bt := by omega
  have mn2 : bt ≠ bi := by omega
  have hbi : (b : Int) < 8 := by omega
  have f25 := mt.frozen 25
  have c25 := mt.cellAt 25
  simp [trC] at c25
  obtain ⟨gs, cap, xs, hv, hgs, hxs, cxs, fxs, hcap⟩ := own_at1 mw.was hfu
  obtain ⟨gu, cap2, xu, hv2, hgu, hxu, cxu, fxu, hcap2⟩ := own_at1 mw.fut (k := a) (by omega)
  have hne : gs ≠ gu := fun e => own_apart mw.was mw.fut (by decide) gs hgs (by rw [e]; exact hgu)
  have hne2 : gu ≠ gs := fun e => hne e.symm
  have hsb : gs ≠ bt := fun e => mt.notEx mw (.inr (.inr (by rw [← e]; exact hgs)))
  have hub : gu ≠ bt := fun e => mt.notEx mw (.inr (.inl (by rw [← e]; exact hgu)))
  have hsb2 : bt ≠ gs := fun e => hsb e.symm
  have hub2 : bt ≠ gu := fun e => hub e.symm
  have hsi : gs ≠ bi := by have := mex gs (.inr (.inr hgs)); omega
  have hsi2 : bi ≠ gs := by omega
  have hui : gu ≠ bi := by have := mex gu (.inr (.inl hgu)); omega
  have hui2 : bi ≠ gu := by omega
  have hsw : gs ≠ E.bw := fun e => own_typ mw.was mw.box (by decide) (by rw [← e]; exact hgs)
  have hsw2 : E.bw ≠ gs := fun e => hsw e.symm
  have huw : gu ≠ E.bw := fun e => own_typ mw.fut mw.box (by decide) (by rw [← e]; exact hgu)
  have huw2 : E.bw ≠ gu := fun e => huw e.symm
  have hxb : xs = .bool (r.was.getD a false) := by
    rw [List.getElem?_map, List.getElem?_eq_getElem hfu] at hxs
    simp at hxs
    rw [← hxs, List.getD_eq_getElem?_getD, List.getElem?_eq_getElem hfu]
    rfl
  have hxi : xu = .int .i64 (r.futs.getD a 0) := by
    rw [List.getElem?_map, List.getElem?_eq_getElem (by omega)] at hxu
    simp at hxu
    rw [← hxu, List.getD_eq_getElem?_getD, List.getElem?_eq_getElem (by omega)]
    rfl
  subst hxb
  subst hxi
  clear hxs hxu
  have c6 := mw.cellsAt 6
  have c5 := mw.cellsAt 5
  simp [rhC] at c5 c6
  rw [hv] at c6
  rw [hv2] at c5
  have hlw : (a : Int) < r.was.length := by omega
  have hlf : (a : Int) < r.futs.length := by omega
  have cb := mt.reg hb
  have HV : Hid (E.sv = .slice (some ⟨gs, 0, none⟩) r.was.length cap ∧ E.uv = .slice (some ⟨gu, 0, none⟩) r.futs.length cap2 ∧ Ex E gs ∧ Ex E gu ∧ E.W0.heap.size ≤ gs ∧ E.W0.heap.size ≤ gu) := ⟨hv, hv2, .inr (.inr hgs), .inr (.inl hgu), (mw.exlo (.inr (.inr hgs))).1, (mw.exlo (.inr (.inl hgu))).1⟩
  generalize t.reg.getD b 0 = y at *
  cases hbb : r.was.getD a false with
  | true =>
    rw [hbb] at HO cxs
    rw [if_pos rfl] at HO
    clear hbb hv hv2 hgs hgu
    go_wp2_with fail
    go_quiet (fail)
    go_wp2_with fail
    exact bodyPost_end (v := .tuple #[]) (by simp [results, Tryd.results59, go_sem]) rfl (by rw [HO.out]; exact ⟨rfl, (mw.drewN _).setT (mt.drewN _) _ _, (mt.drewN _).setEnds 3, (mf.drewN _).setT mt.lo _ _⟩)
  | false =>
    rw [hbb] at HO cxs
    rw [if_neg (by decide)] at HO
    clear hbb hv hv2 hgs hgu
    go_wp2_with fail
    go_quiet (fail)
    go_wp2_with fail
    have mw4 := mw.drewN nq
    have mt4 := mt.drewN nq
    have mf4 := mf.drewN nq
    have k1 : (w2.drewN nq).cell? ⟨bi, 1, none⟩ = some (.int .i64 a) := j1
    have k2 : (w2.drewN nq).cell? ⟨bi, 2, none⟩ = some (.int .i64 b) := j2
    have e6 : (w2.drewN nq).cell? ⟨E.bw, 6, none⟩ = _ := c6
    have e5 : (w2.drewN nq).cell? ⟨E.bw, 5, none⟩ = _ := c5
    have es : (w2.drewN nq).cell? ⟨gs, a, none⟩ = _ := cxs
    have eu : (w2.drewN nq).cell? ⟨gu, a, none⟩ = _ := cxu
    have gs' : (w2.drewN nq).frozen? ⟨gs, a, none⟩ = _ := fxs
    have gu' : (w2.drewN nq).frozen? ⟨gu, a, none⟩ = _ := fxu
    have cb4 : (w2.drewN nq).cell? ⟨bt, b, none⟩ = _ := cb
    generalize w2.drewN nq = w4 at *
    clear j0 j1 j2 j3 cb f25 c25 mw mt mf c5 c6 cxs cxu fxs fxu nq
    go_region
    all_goals
      go_wp2_with fail
      first
        | exact bodyPost_end (v := .tuple #[]) (by simp [results, Tryd.results59, go_sem]) rfl (by rw [HO.out]; exact ⟨rfl, (mw4.drew.setWas HV.out.1 a true).setFut HV.out.2.1 a y, (mt4.drew.setNe (fun e => hsb e.symm) _ _).setNe (fun e => hub e.symm) _ _, (mf4.drew.setEx HV.out.2.2.1 HV.out.2.2.2.2.1 _ _).setEx HV.out.2.2.2.1 HV.out.2.2.2.2.2 _ _⟩)
        | exact bodyPost_end (v := .tuple #[]) (by simp [results, Tryd.results59, go_sem]) rfl (by rw [HO.out]; exact ⟨rfl, (mw4.drew.setFut HV.out.2.1 a y).setWas HV.out.1 a true, (mt4.drew.setNe (fun e => hub e.symm) _ _).setNe (fun e => hsb e.symm) _ _, (mf4.drew.setEx HV.out.2.2.2.1 HV.out.2.2.2.2.2 _ _).setEx HV.out.2.2.1 HV.out.2.2.2.2.1 _ _⟩)
set_option maxHeartbeats 2000000 in
set_option maxRecDepth 4000 in
theorem rone_11 {E : Ev7} {w : World} {rv : Value} {r : Rs} {t : Ts} {bt a b : Nat} {c : Int} (hw : Rh E w rv r) (ht : Tr E w bt t) (hl : t.reg.length = 8) (hr : ∀ x ∈ t.reg, wrp x = x) (hh : t.has.length = 4) (hn : t.hand.length = 4) (hb : b < 8) (hfu : a < r.was.length) (hfl : r.futs.length = r.was.length) :
    Calls Tryd.prog 36 #[.pointer (some ⟨E.bw, 0, none⟩), .pointer (some ⟨bt, 0, none⟩), .agg #[.int .i64 11, .int .i64 a, .int .i64 b, .int .i64 c]] w fun e w' => ROne E bt rv w (oneP r t ⟨11, a, b, c⟩) e w' := by
  have hM := Mr.made 11 a b c hw ht
  have HO0 : Hid (oneP r t ⟨11, a, b, c⟩ = oneP r t ⟨11, a, b, c⟩) := by show _ = _; rfl
  have HR : Hid (t.reg.length = 8 ∧ (∀ x ∈ t.reg, wrp x = x) ∧ t.has.length = 4 ∧ t.hand.length = 4) := ⟨hl, hr, hh, hn⟩
  clear hl hr hh hn hw ht
  go_enter Tryd.func36, Tryd.ntmps36
  go_upto_region 2 with fail
  generalize hW2 : w.alloc (.cells #[.int .i64 11, .int .i64 a, .int .i64 b, .int .i64 c] 54) = w2 at *
  generalize hBI : w.heap.size = bi at *
  clear hW2 hBI
  obtain ⟨mw, mt, mf, ml, mlw, mex, j0, j1, j2, j3⟩ := hM
  have mn : bi ≠ bt := by omega
  have mn2 : bt ≠ bi := by omega
  have HQ : Hid (∀ w, Rh E w rv r → Tr E w bt t → Calls Tryd.prog 59 #[.pointer (some ⟨E.bw, 0, none⟩), .pointer (some ⟨bt, 0, none⟩), .agg #[.int .i64 11, .int .i64 a, .int .i64 b, .int .i64 c]] w fun e w' => ROne E bt rv w (oneP r t ⟨11, a, b, c⟩) e w') := fun w h1 h2 => roth_11 h1 h2 HR.out.1 HR.out.2.1 HR.out.2.2.1 HR.out.2.2.2 hb hfu hfl
  go_wp2_with fail
  refine (HQ.out _ mw mt).mono ?_
  rintro e w3 ⟨rfl, hw3, ht3, hf3⟩
  go_wp2_with fail
  exact bodyPost_end (v := .tuple #[]) (by simp [results, Tryd.results36, go_sem]) rfl ⟨rfl, hw3, ht3, mf.trans hf3⟩
end Go.Proofs.YtpmapdialjdcbaaDoor
namespace Go.Proofs.YtpmapdialjdcbaaDoor
open Go.RowKit
open C2 (In Pr SlF SlI InsAt still_of_below below_then)

set_option maxHeartbeats 2000000 in
set_option maxRecDepth 4000 in
theorem roth_12 {E : Ev7} {w : World} {rv : Value} {r : Rs} {t : Ts} {bt a b : Nat} {c : Int} (hw : Rh E w rv r) (ht : Tr E w bt t) (hl : t.reg.length = 8) (hr : ∀ x ∈ t.reg, wrp x = x) (hh : t.has.length = 4) (hn : t.hand.length = 4) (ha : a < 8) (hfu : b < r.was.length) (hfl : r.futs.length = r.was.length) :
    Calls Tryd.prog 59 #[.pointer (some ⟨E.bw, 0, none⟩), .pointer (some ⟨bt, 0, none⟩), .agg #[.int .i64 12, .int .i64 a, .int .i64 b, .int .i64 c]] w fun e w' => ROne E bt rv w (oneP r t ⟨12, a, b, c⟩) e w' := by
  have hM := Mr.made 12 a b c hw ht
  have HO : Hid (oneP r t ⟨12, a, b, c⟩ = (if r.was.getD b false = false then (r, t.ends 4) else (r, t.put a (r.futs.getD b 0)))) := by show _ = _; simp [oneP]
  have HR : Hid (t.reg.length = 8 ∧ (∀ x ∈ t.reg, wrp x = x) ∧ t.has.length = 4 ∧ t.hand.length = 4) := ⟨hl, hr, hh, hn⟩
  clear hl hr hh hn hw ht
  go_enter Tryd.func59, Tryd.ntmps59
  go_upto_region 25 with fail
  generalize hW2 : w.alloc (.cells #[.int .i64 12, .int .i64 a, .int .i64 b, .int .i64 c] 54) = w2 at *
  generalize hBI : w.heap.size = bi at *
  clear hW2 hBI
  obtain ⟨mw, mt, mf, ml, mlw, mex, j0, j1, j2, j3⟩ := hM
  have mn : bi ≠ bt := by omega
  have mn2 : bt ≠ bi := by omega
  have hai : (a : Int) < 8 := by omega
  have f25 := mt.frozen 25
  have c25 := mt.cellAt 25
  simp [trC] at c25
  obtain ⟨gs, cap, xs, hv, hgs, hxs, cxs, fxs, hcap⟩ := own_at1 mw.was hfu
  obtain ⟨gu, cap2, xu, hv2, hgu, hxu, cxu, fxu, hcap2⟩ := own_at1 mw.fut (k := b) (by omega)
  have hne : gs ≠ gu := fun e => own_apart mw.was mw.fut (by decide) gs hgs (by rw [e]; exact hgu)
  have hne2 : gu ≠ gs := fun e => hne e.symm
  have hsb : gs ≠ bt := fun e => mt.notEx mw (.inr (.inr (by rw [← e]; exact hgs)))
  have hub : gu ≠ bt := fun e => mt.notEx mw (.inr (.inl (by rw [← e]; exact hgu)))
  have hsb2 : bt ≠ gs := fun e => hsb e.symm
  have hub2 : bt ≠ gu := fun e => hub e.symm
  have hsi : gs ≠ bi := by have := mex gs (.inr (.inr hgs)); omega
  have hsi2 : bi ≠ gs := by omega
  have hui : gu ≠ bi := by have := mex gu (.inr (.inl hgu)); omega
  have hui2 : bi ≠ gu := by omega
  have hsw : gs ≠ E.bw := fun e => own_typ mw.was mw.box (by decide) (by rw [← e]; exact hgs)
  have hsw2 : E.bw ≠ gs := fun e => hsw e.symm
  have huw : gu ≠ E.bw := fun e => own_typ mw.fut mw.box (by decide) (by rw [← e]; exact hgu)
  have huw2 : E.bw ≠ gu := fun e => huw e.symm
  have hxb : xs = .bool (r.was.getD b false) := by
    rw [List.getElem?_map, List.getElem?_eq_getElem hfu] at hxs
    simp at hxs
    rw [← hxs, List.getD_eq_getElem?_getD, List.getElem?_eq_getElem hfu]
    rfl
  have hxi : xu = .int .i64 (r.futs.getD b 0) := by
    rw [List.getElem?_map, List.getElem?_eq_getElem (by omega)] at hxu
    simp at hxu
    rw [← hxu, List.getD_eq_getElem?_getD, List.getElem?_eq_getElem (by omega)]
    rfl
  subst hxb
  subst hxi
  clear hxs hxu
  have c6 := mw.cellsAt 6
  have c5 := mw.cellsAt 5
  simp [rhC] at c5 c6
  rw [hv] at c6
  rw [hv2] at c5
  have hlw : (b : Int) < r.was.length := by omega
  have hlf : (b : Int) < r.futs.length := by omega
  have ca := mt.reg ha
  generalize r.futs.getD b 0 = y at *
  cases hbb : r.was.getD b false with
  | false =>
    rw [hbb] at HO cxs
    rw [if_pos rfl] at HO
    clear hbb hv hv2 hgs hgu
    go_wp2_with fail
    go_quiet (fail)
    go_wp2_with fail
    exact bodyPost_end (v := .tuple #[]) (by simp [results, Tryd.results59, go_sem]) rfl (by rw [HO.out]; exact ⟨rfl, (mw.drewN _).setT (mt.drewN _) _ _, (mt.drewN _).setEnds 4, (mf.drewN _).setT mt.lo _ _⟩)
  | true =>
    rw [hbb] at HO cxs
    rw [if_neg (by decide)] at HO
    clear hbb hv hv2 hgs hgu
    go_wp2_with fail
    go_quiet (fail)
    go_wp2_with fail
    have mw4 := mw.drewN nq
    have mt4 := mt.drewN nq
    have mf4 := mf.drewN nq
    have k1 : (w2.drewN nq).cell? ⟨bi, 1, none⟩ = some (.int .i64 a) := j1
    have k2 : (w2.drewN nq).cell? ⟨bi, 2, none⟩ = some (.int .i64 b) := j2
    have e6 : (w2.drewN nq).cell? ⟨E.bw, 6, none⟩ = _ := c6
    have e5 : (w2.drewN nq).cell? ⟨E.bw, 5, none⟩ = _ := c5
    have eu : (w2.drewN nq).cell? ⟨gu, b, none⟩ = _ := cxu
    have ca4 : (w2.drewN nq).cell? ⟨bt, a, none⟩ = _ := ca
    have fa4 := mt4.frozen a
    generalize w2.drewN nq = w4 at *
    clear j0 j1 j2 j3 ca f25 c25 mw mt mf c5 c6 cxs cxu fxs fxu nq
    go_region
    all_goals
      go_wp2_with fail
      exact bodyPost_end (v := .tuple #[]) (by simp [results, Tryd.results59, go_sem]) rfl (by rw [HO.out]; exact ⟨rfl, mw4.drew.setT mt4.drew _ _, mt4.drew.setReg HR.out.1 ha _, mf4.drew.setT mt4.lo _ _⟩)
set_option maxHeartbeats 2000000 in
set_option maxRecDepth 4000 in
theorem rone_12 {E : Ev7} {w : World} {rv : Value} {r : Rs} {t : Ts} {bt a b : Nat} {c : Int} (hw : Rh E w rv r) (ht : Tr E w bt t) (hl : t.reg.length = 8) (hr : ∀ x ∈ t.reg, wrp x = x) (hh : t.has.length = 4) (hn : t.hand.length = 4) (ha : a < 8) (hfu : b < r.was.length) (hfl : r.futs.length = r.was.length) :
    Calls Tryd.prog 36 #[.pointer (some ⟨E.bw, 0, none⟩), .pointer (some ⟨bt, 0, none⟩), .agg #[.int .i64 12, .int .i64 a, .int .i64 b, .int .i64 c]] w fun e w' => ROne E bt rv w (oneP r t ⟨12, a, b, c⟩) e w' := by
  have hM := Mr.made 12 a b c hw ht
  have HO0 : Hid (oneP r t ⟨12, a, b, c⟩ = oneP r t ⟨12, a, b, c⟩) := by show _ = _; rfl
  have HR : Hid (t.reg.length = 8 ∧ (∀ x ∈ t.reg, wrp x = x) ∧ t.has.length = 4 ∧ t.hand.length = 4) := ⟨hl, hr, hh, hn⟩
  clear hl hr hh hn hw ht
  go_enter Tryd.func36, Tryd.ntmps36
  go_upto_region 2 with fail
  generalize hW2 : w.alloc (.cells #[.int .i64 12, .int .i64 a, .int .i64 b, .int .i64 c] 54) = w2 at *
  generalize hBI : w.heap.size = bi at *
  clear hW2 hBI
  obtain ⟨mw, mt, mf, ml, mlw, mex, j0, j1, j2, j3⟩ := hM
  have mn : bi ≠ bt := by omega
  have mn2 : bt ≠ bi := by omega
  have HQ : Hid (∀ w, Rh E w rv r → Tr E w bt t → Calls Tryd.prog 59 #[.pointer (some ⟨E.bw, 0, none⟩), .pointer (some ⟨bt, 0, none⟩), .agg #[.int .i64 12, .int .i64 a, .int .i64 b, .int .i64 c]] w fun e w' => ROne E bt rv w (oneP r t ⟨12, a, b, c⟩) e w') := fun w h1 h2 => roth_12 h1 h2 HR.out.1 HR.out.2.1 HR.out.2.2.1 HR.out.2.2.2 ha hfu hfl
  go_wp2_with fail
  refine (HQ.out _ mw mt).mono ?_
  rintro e w3 ⟨rfl, hw3, ht3, hf3⟩
  go_wp2_with fail
  exact bodyPost_end (v := .tuple #[]) (by simp [results, Tryd.results36, go_sem]) rfl ⟨rfl, hw3, ht3, mf.trans hf3⟩
end Go.Proofs.YtpmapdialjdcbaaDoor
namespace Go.Proofs.YtpmapdialjdcbaaDoor
open Go.RowKit
open C2 (In Pr SlF SlI InsAt still_of_below below_then)

set_option maxHeartbeats 2000000 in
set_option maxRecDepth 4000 in
theorem roth_13 {E : Ev7} {w : World} {rv : Value} {r : Rs} {t : Ts} {bt a : Nat} {b c : Int} (hw : Rh E w rv r) (ht : Tr E w bt t) (hl : t.reg.length = 8) (hr : ∀ x ∈ t.reg, wrp x = x) (hh : t.has.length = 4) (hn : t.hand.length = 4) (ha : a < 4) :
    Calls Tryd.prog 59 #[.pointer (some ⟨E.bw, 0, none⟩), .pointer (some ⟨bt, 0, none⟩), .agg #[.int .i64 13, .int .i64 a, .int .i64 b, .int .i64 c]] w fun e w' => ROne E bt rv w (oneP r t ⟨13, a, b, c⟩) e w' := by
  have hM := Mr.made 13 a b c hw ht
  have HO : Hid (oneP r t ⟨13, a, b, c⟩ = (r, if t.has.getD a false = false then t.ends 7 else t)) := by show _ = _; simp [oneP]
  have HR : Hid (t.reg.length = 8 ∧ (∀ x ∈ t.reg, wrp x = x) ∧ t.has.length = 4 ∧ t.hand.length = 4) := ⟨hl, hr, hh, hn⟩
  clear hl hr hh hn hw ht
  go_enter Tryd.func59, Tryd.ntmps59
  go_upto_region 29 with fail
  generalize hW2 : w.alloc (.cells #[.int .i64 13, .int .i64 a, .int .i64 b, .int .i64 c] 54) = w2 at *
  generalize hBI : w.heap.size = bi at *
  clear hW2 hBI
  obtain ⟨mw, mt, mf, ml, mlw, mex, j0, j1, j2, j3⟩ := hM
  have mn : bi ≠ bt := by omega
  have mn2 : bt ≠ bi := by omega
  have hai : (a : Int) < 4 := by omega
  have f25 := mt.frozen 25
  have c25 := mt.cellAt 25
  simp [trC] at c25
  have ca := mt.has ha
  cases hb : t.has.getD a false with
  | false =>
    rw [hb] at HO ca
    rw [if_pos rfl] at HO
    clear hb
    go_wp2_with fail
    go_quiet (fail)
    go_wp2_with fail
    exact bodyPost_end (v := .tuple #[]) (by simp [results, Tryd.results59, go_sem]) rfl (by rw [HO.out]; exact ⟨rfl, (mw.drewN _).setT (mt.drewN _) _ _, (mt.drewN _).setEnds 7, (mf.drewN _).setT mt.lo _ _⟩)
  | true =>
    rw [hb] at HO ca
    rw [if_neg (by decide)] at HO
    clear hb
    go_wp2_with fail
    go_quiet (fail)
    go_wp2_with fail
    exact bodyPost_end (v := .tuple #[]) (by simp [results, Tryd.results59, go_sem]) rfl (by rw [HO.out]; exact ⟨rfl, mw.drewN _, mt.drewN _, mf.drewN _⟩)
set_option maxHeartbeats 2000000 in
set_option maxRecDepth 4000 in
theorem rone_13 {E : Ev7} {w : World} {rv : Value} {r : Rs} {t : Ts} {bt a : Nat} {b c : Int} (hw : Rh E w rv r) (ht : Tr E w bt t) (hl : t.reg.length = 8) (hr : ∀ x ∈ t.reg, wrp x = x) (hh : t.has.length = 4) (hn : t.hand.length = 4) (ha : a < 4) :
    Calls Tryd.prog 36 #[.pointer (some ⟨E.bw, 0, none⟩), .pointer (some ⟨bt, 0, none⟩), .agg #[.int .i64 13, .int .i64 a, .int .i64 b, .int .i64 c]] w fun e w' => ROne E bt rv w (oneP r t ⟨13, a, b, c⟩) e w' := by
  have hM := Mr.made 13 a b c hw ht
  have HO0 : Hid (oneP r t ⟨13, a, b, c⟩ = oneP r t ⟨13, a, b, c⟩) := by show _ = _; rfl
  have HR : Hid (t.reg.length = 8 ∧ (∀ x ∈ t.reg, wrp x = x) ∧ t.has.length = 4 ∧ t.hand.length = 4) := ⟨hl, hr, hh, hn⟩
  clear hl hr hh hn hw ht
  go_enter Tryd.func36, Tryd.ntmps36
  go_upto_region 2 with fail
  generalize hW2 : w.alloc (.cells #[.int .i64 13, .int .i64 a, .int .i64 b, .int .i64 c] 54) = w2 at *
  generalize hBI : w.heap.size = bi at *
  clear hW2 hBI
  obtain ⟨mw, mt, mf, ml, mlw, mex, j0, j1, j2, j3⟩ := hM
  have mn : bi ≠ bt := by omega
  have mn2 : bt ≠ bi := by omega
  have HQ : Hid (∀ w, Rh E w rv r → Tr E w bt t → Calls Tryd.prog 59 #[.pointer (some ⟨E.bw, 0, none⟩), .pointer (some ⟨bt, 0, none⟩), .agg #[.int .i64 13, .int .i64 a, .int .i64 b, .int .i64 c]] w fun e w' => ROne E bt rv w (oneP r t ⟨13, a, b, c⟩) e w') := fun w h1 h2 => roth_13 h1 h2 HR.out.1 HR.out.2.1 HR.out.2.2.1 HR.out.2.2.2 ha
  go_wp2_with fail
  refine (HQ.out _ mw mt).mono ?_
  rintro e w3 ⟨rfl, hw3, ht3, hf3⟩
  go_wp2_with fail
  exact bodyPost_end (v := .tuple #[]) (by simp [results, Tryd.results36, go_sem]) rfl ⟨rfl, hw3, ht3, mf.trans hf3⟩
end Go.Proofs.YtpmapdialjdcbaaDoor
namespace Go.Proofs.YtpmapdialjdcbaaDoor
open Go.RowKit
open C2 (In Pr SlF SlI InsAt still_of_below below_then)

set_option maxHeartbeats 2000000 in
set_option maxRecDepth 4000 in
theorem roth_14 {E : Ev7} {w : World} {rv : Value} {r : Rs} {t : Ts} {bt : Nat} {a b c : Int} (hw : Rh E w rv r) (ht : Tr E w bt t) (hl : t.reg.length = 8) (hr : ∀ x ∈ t.reg, wrp x = x) (hh : t.has.length = 4) (hn : t.hand.length = 4) :
    Calls Tryd.prog 59 #[.pointer (some ⟨E.bw, 0, none⟩), .pointer (some ⟨bt, 0, none⟩), .agg #[.int .i64 14, .int .i64 a, .int .i64 b, .int .i64 c]] w fun e w' => ROne E bt rv w (oneP r t ⟨14, a, b, c⟩) e w' := by
  have hM := Mr.made 14 a b c hw ht
  have HO : Hid (oneP r t ⟨14, a, b, c⟩ = (r, t)) := by show _ = _; simp [oneP]
  have HR : Hid (t.reg.length = 8 ∧ (∀ x ∈ t.reg, wrp x = x) ∧ t.has.length = 4 ∧ t.hand.length = 4) := ⟨hl, hr, hh, hn⟩
  clear hl hr hh hn hw ht
  go_enter Tryd.func59, Tryd.ntmps59
  go_wp2_with fail
  generalize hW2 : w.alloc (.cells #[.int .i64 14, .int .i64 a, .int .i64 b, .int .i64 c] 54) = w2 at *
  generalize hBI : w.heap.size = bi at *
  clear hW2 hBI
  obtain ⟨mw, mt, mf, ml, mlw, mex, j0, j1, j2, j3⟩ := hM
  have mn : bi ≠ bt := by omega
  have mn2 : bt ≠ bi := by omega
  exact bodyPost_end (v := .tuple #[]) (by simp [results, Tryd.results59, go_sem]) rfl (by rw [HO.out]; exact ⟨rfl, mw, mt, mf⟩)
set_option maxHeartbeats 2000000 in
set_option maxRecDepth 4000 in
theorem rone_14 {E : Ev7} {w : World} {rv : Value} {r : Rs} {t : Ts} {bt : Nat} {a b c : Int} (hw : Rh E w rv r) (ht : Tr E w bt t) (hl : t.reg.length = 8) (hr : ∀ x ∈ t.reg, wrp x = x) (hh : t.has.length = 4) (hn : t.hand.length = 4) :
    Calls Tryd.prog 36 #[.pointer (some ⟨E.bw, 0, none⟩), .pointer (some ⟨bt, 0, none⟩), .agg #[.int .i64 14, .int .i64 a, .int .i64 b, .int .i64 c]] w fun e w' => ROne E bt rv w (oneP r t ⟨14, a, b, c⟩) e w' := by
  have hM := Mr.made 14 a b c hw ht
  have HO0 : Hid (oneP r t ⟨14, a, b, c⟩ = oneP r t ⟨14, a, b, c⟩) := by show _ = _; rfl
  have HR : Hid (t.reg.length = 8 ∧ (∀ x ∈ t.reg, wrp x = x) ∧ t.has.length = 4 ∧ t.hand.length = 4) := ⟨hl, hr, hh, hn⟩
  clear hl hr hh hn hw ht
  go_enter Tryd.func36, Tryd.ntmps36
  go_upto_region 2 with fail
  generalize hW2 : w.alloc (.cells #[.int .i64 14, .int .i64 a, .int .i64 b, .int .i64 c] 54) = w2 at *
  generalize hBI : w.heap.size = bi at *
  clear hW2 hBI
  obtain ⟨mw, mt, mf, ml, mlw, mex, j0, j1, j2, j3⟩ := hM
  have mn : bi ≠ bt := by omega
  have mn2 : bt ≠ bi := by omega
  have HQ : Hid (∀ w, Rh E w rv r → Tr E w bt t → Calls Tryd.prog 59 #[.pointer (some ⟨E.bw, 0, none⟩), .pointer (some ⟨bt, 0, none⟩), .agg #[.int .i64 14, .int .i64 a, .int .i64 b, .int .i64 c]] w fun e w' => ROne E bt rv w (oneP r t ⟨14, a, b, c⟩) e w') := fun w h1 h2 => roth_14 h1 h2 HR.out.1 HR.out.2.1 HR.out.2.2.1 HR.out.2.2.2
  go_wp2_with fail
  refine (HQ.out _ mw mt).mono ?_
  rintro e w3 ⟨rfl, hw3, ht3, hf3⟩
  go_wp2_with fail
  exact bodyPost_end (v := .tuple #[]) (by simp [results, Tryd.results36, go_sem]) rfl ⟨rfl, hw3, ht3, mf.trans hf3⟩
end Go.Proofs.YtpmapdialjdcbaaDoor
