/-
  Helpers: RxA8, RxA10, RxA11, RxA12, RxA13, RxA14, RxA15, EvB, EvA1, EvA2.
-/
import Derived.Test.YtpmapdialjdcbaaDoorBun28c4fdf61e27
namespace Go.Proofs.YtpmapdialjdcbaaDoor
open Go.RowKit
open C2 (In Pr SlF SlI InsAt still_of_below below_then)

set_option maxHeartbeats 2000000 in
set_option maxRecDepth 4000 in
theorem rone_8 {E : Ev7} {w : World} {rv : Value} {r : Rs} {t : Ts} {bt a b : Nat} {c : Int} (hw : Rh E w rv r) (ht : Tr E w bt t) (hl : t.reg.length = 8) (hr : ∀ x ∈ t.reg, wrp x = x) (hh : t.has.length = 4) (hn : t.hand.length = 4) (ha : a < 8) :
    Calls Tryd.prog 36 #[.pointer (some ⟨E.bw, 0, none⟩), .pointer (some ⟨bt, 0, none⟩), .agg #[.int .i64 8, .int .i64 a, .int .i64 b, .int .i64 c]] w fun e w' => ROne E bt rv w (oneP r t ⟨8, a, b, c⟩) e w' := by
  have hM := Mr.made 8 a b c hw ht
  have HO : Hid (oneP r t ⟨8, a, b, c⟩ = (r, if t.reg.getD a 0 = 0 then { t with at_ := b } else t)) := by show _ = _; simp [oneP, rg]
  have HR : Hid (t.reg.length = 8 ∧ (∀ x ∈ t.reg, wrp x = x) ∧ t.has.length = 4 ∧ t.hand.length = 4) := ⟨hl, hr, hh, hn⟩
  clear hl hr hh hn hw ht
  go_enter Tryd.func36, Tryd.ntmps36
  go_upto_region 21 with fail
  generalize hW2 : w.alloc (.cells #[.int .i64 8, .int .i64 a, .int .i64 b, .int .i64 c] 54) = w2 at *
  generalize hBI : w.heap.size = bi at *
  clear hW2 hBI
  obtain ⟨mw, mt, mf, ml, mlw, mex, j0, j1, j2, j3⟩ := hM
  have mn : bi ≠ bt := by omega
  have mn2 : bt ≠ bi := by omega
  have hai : (a : Int) < 8 := by omega
  have f21 := mt.frozen 21
  have c21 := mt.cellAt 21
  simp [trC] at c21
  have ca := mt.reg ha
  generalize t.reg.getD a 0 = y at *
  by_cases hz : y = 0
  · subst hz
    rw [if_pos rfl] at HO
    go_wp2_with fail
    go_quiet (fail)
    go_wp2_with fail
    exact bodyPost_end (v := .tuple #[]) (by simp [results, Tryd.results36, go_sem]) rfl (by rw [HO.out]; exact ⟨rfl, (mw.drewN _).setT (mt.drewN _) _ _, (mt.drewN _).setAt b, (mf.drewN _).setT mt.lo _ _⟩)
  · rw [if_neg hz] at HO
    have hzb : (y == 0) = false := by simpa using hz
    go_wp2_with fail
    go_quiet (fail)
    go_wp2_with fail
    exact bodyPost_end (v := .tuple #[]) (by simp [results, Tryd.results36, go_sem]) rfl (by rw [HO.out]; exact ⟨rfl, mw.drewN _, mt.drewN _, mf.drewN _⟩)
end Go.Proofs.YtpmapdialjdcbaaDoor
namespace Go.Proofs.YtpmapdialjdcbaaDoor
open Go.RowKit
open C2 (In Pr SlF SlI InsAt still_of_below below_then)

set_option maxHeartbeats 2000000 in
set_option maxRecDepth 4000 in
theorem roth_10 {E : Ev7} {w : World} {rv : Value} {r : Rs} {t : Ts} {bt a b : Nat} {c : Int} (hw : Rh E w rv r) (ht : Tr E w bt t) (hl : t.reg.length = 8) (hr : ∀ x ∈ t.reg, wrp x = x) (hh : t.has.length = 4) (hn : t.hand.length = 4) (ha : a < 8) (hb : b < 4) :
    Calls Tryd.prog 59 #[.pointer (some ⟨E.bw, 0, none⟩), .pointer (some ⟨bt, 0, none⟩), .agg #[.int .i64 10, .int .i64 a, .int .i64 b, .int .i64 c]] w fun e w' => ROne E bt rv w (oneP r t ⟨10, a, b, c⟩) e w' := by
  have hM := Mr.made 10 a b c hw ht
  have HO : Hid (oneP r t ⟨10, a, b, c⟩ = (r, if t.has.getD b false = false then t.ends 7 else if (t.hand.getD b en0).h ≠ 1 then ({ t with has := t.has.set b false } : Ts).ends (t.hand.getD b en0).h else ({ t with has := t.has.set b false } : Ts).put a (t.hand.getD b en0).v)) := by show _ = _; simp [oneP]
  have HR : Hid (t.reg.length = 8 ∧ (∀ x ∈ t.reg, wrp x = x) ∧ t.has.length = 4 ∧ t.hand.length = 4) := ⟨hl, hr, hh, hn⟩
  clear hl hr hh hn hw ht
  go_enter Tryd.func59, Tryd.ntmps59
  go_upto_region 14 with fail
  generalize hW2 : w.alloc (.cells #[.int .i64 10, .int .i64 a, .int .i64 b, .int .i64 c] 54) = w2 at *
  generalize hBI : w.heap.size = bi at *
  clear hW2 hBI
  obtain ⟨mw, mt, mf, ml, mlw, mex, j0, j1, j2, j3⟩ := hM
  have mn : bi ≠ bt := by omega
  have mn2 : bt ≠ bi := by omega
  have hai : (a : Int) < 8 := by omega
  have hbi : (b : Int) < 4 := by omega
  have f25 := mt.frozen 25
  have c25 := mt.cellAt 25
  simp [trC] at c25
  have cb := mt.has hb
  have fb := mt.frozen (8 + b)
  cases hbb : t.has.getD b false with
  | false =>
    rw [hbb] at HO cb
    rw [if_pos rfl] at HO
    clear hbb
    go_wp2_with fail
    go_quiet (fail)
    go_wp2_with fail
    exact bodyPost_end (v := .tuple #[]) (by simp [results, Tryd.results59, go_sem]) rfl (by rw [HO.out]; exact ⟨rfl, (mw.drewN _).setT (mt.drewN _) _ _, (mt.drewN _).setEnds 7, (mf.drewN _).setT mt.lo _ _⟩)
  | true =>
    rw [hbb] at HO cb
    rw [if_neg (by decide)] at HO
    clear hbb
    go_wp2_with fail
    go_quiet (fail)
    go_wp2_with fail
    have mw4 := mw.drewN nq
    have mt4 := mt.drewN nq
    have mf4 := mf.drewN nq
    have k1 : (w2.drewN nq).cell? ⟨bi, 1, none⟩ = some (.int .i64 a) := j1
    have k2 : (w2.drewN nq).cell? ⟨bi, 2, none⟩ = some (.int .i64 b) := j2
    have cb4 : (w2.drewN nq).cell? ⟨bt, 8 + b, none⟩ = some (.bool true) := cb
    have fb4 := mt4.frozen (8 + b)
    generalize w2.drewN nq = w4 at *
    clear j0 j1 j2 j3 cb fb c25 f25 mw mt mf
    go_region
    all_goals
      have l1 : (w4.setCell ⟨bt, 8 + b, none⟩ (.bool false)).drew.cell? ⟨bi, 1, none⟩ = some (.int .i64 a) := (World.cell?_setCell_far _ _ _ _ (by simp only; omega)).trans k1
      have l2 : (w4.setCell ⟨bt, 8 + b, none⟩ (.bool false)).drew.cell? ⟨bi, 2, none⟩ = some (.int .i64 b) := (World.cell?_setCell_far _ _ _ _ (by simp only; omega)).trans k2
      have mt5 := (mt4.setHas HR.out.2.2.1 hb false).drew
      have mw5 := (mw4.setT mt4 (8 + b) (.bool false)).drew
      have mf5 := (mf4.setT mt4.lo (8 + b) (.bool false)).drew
      generalize hw5 : (w4.setCell ⟨bt, 8 + b, none⟩ (.bool false)).drew = w5 at *
      clear hw5
      clear k1 k2 cb4 fb4 mw4 mt4 mf4
      obtain ⟨ch, cv⟩ := mt5.hand hb
      simp only at ch cv
      have hl5 : ({ t with has := t.has.set b false } : Ts).reg.length = 8 := HR.out.1
      generalize t.hand.getD b en0 = x at *
      generalize ({ t with has := t.has.set b false } : Ts) = t5 at *
      clear nq
      by_cases h1 : x.h = 1
      · have e1 : (x.h != 1) = false := by simp [h1]
        rw [if_neg (by simp [h1])] at HO
        have ca5 := mt5.reg ha
        clear h1
        go_wp2_with fail
        go_quiet (fail)
        go_wp2_with fail
        have mw6 := mw5.drewN nq
        have mt6 := mt5.drewN nq
        have mf6 := mf5.drewN nq
        have m1 : (w5.drewN nq).cell? ⟨bi, 1, none⟩ = some (.int .i64 a) := l1
        have m2 : (w5.drewN nq).cell? ⟨bi, 2, none⟩ = some (.int .i64 b) := l2
        have ca6 : (w5.drewN nq).cell? ⟨bt, a, none⟩ = _ := ca5
        have cv6 : (w5.drewN nq).cell? ⟨bt, 12 + b * 2 + 1, none⟩ = _ := cv
        have fa6 := mt6.frozen a
        generalize w5.drewN nq = w6 at *
        clear l1 l2 ch cv ca5 mw5 mt5 mf5 e1
        go_region
        all_goals
          go_wp2_with fail
          exact bodyPost_end (v := .tuple #[]) (by simp [results, Tryd.results59, go_sem]) rfl (by rw [HO.out]; exact ⟨rfl, mw6.drew.setT mt6.drew _ _, mt6.drew.setReg hl5 ha _, mf6.drew.setT mt6.lo _ _⟩)
      · have e1 : (x.h != 1) = true := by simpa using h1
        rw [if_pos h1] at HO
        clear h1
        go_wp2_with fail
        go_quiet (fail)
        go_wp2_with fail
        have mw6 := mw5.drewN nq
        have mt6 := mt5.drewN nq
        have mf6 := mf5.drewN nq
        have m1 : (w5.drewN nq).cell? ⟨bi, 1, none⟩ = some (.int .i64 a) := l1
        have m2 : (w5.drewN nq).cell? ⟨bi, 2, none⟩ = some (.int .i64 b) := l2
        have ch6 : (w5.drewN nq).cell? ⟨bt, 12 + b * 2, none⟩ = _ := ch
        have f25 := mt6.frozen 25
        have c25 : (w5.drewN nq).cell? ⟨bt, 25, none⟩ = some (.int .i64 t5.e.h) := mt6.cellAt 25
        generalize w5.drewN nq = w6 at *
        clear l1 l2 ch cv mw5 mt5 mf5 e1
        go_region
        all_goals
          go_wp2_with fail
          exact bodyPost_end (v := .tuple #[]) (by simp [results, Tryd.results59, go_sem]) rfl (by rw [HO.out]; exact ⟨rfl, mw6.drew.setT mt6.drew _ _, mt6.drew.setEnds _, mf6.drew.setT mt6.lo _ _⟩)
set_option maxHeartbeats 2000000 in
set_option maxRecDepth 4000 in
theorem rone_10 {E : Ev7} {w : World} {rv : Value} {r : Rs} {t : Ts} {bt a b : Nat} {c : Int} (hw : Rh E w rv r) (ht : Tr E w bt t) (hl : t.reg.length = 8) (hr : ∀ x ∈ t.reg, wrp x = x) (hh : t.has.length = 4) (hn : t.hand.length = 4) (ha : a < 8) (hb : b < 4) :
    Calls Tryd.prog 36 #[.pointer (some ⟨E.bw, 0, none⟩), .pointer (some ⟨bt, 0, none⟩), .agg #[.int .i64 10, .int .i64 a, .int .i64 b, .int .i64 c]] w fun e w' => ROne E bt rv w (oneP r t ⟨10, a, b, c⟩) e w' := by
  have hM := Mr.made 10 a b c hw ht
  have HO0 : Hid (oneP r t ⟨10, a, b, c⟩ = oneP r t ⟨10, a, b, c⟩) := by show _ = _; rfl
  have HR : Hid (t.reg.length = 8 ∧ (∀ x ∈ t.reg, wrp x = x) ∧ t.has.length = 4 ∧ t.hand.length = 4) := ⟨hl, hr, hh, hn⟩
  clear hl hr hh hn hw ht
  go_enter Tryd.func36, Tryd.ntmps36
  go_upto_region 2 with fail
  generalize hW2 : w.alloc (.cells #[.int .i64 10, .int .i64 a, .int .i64 b, .int .i64 c] 54) = w2 at *
  generalize hBI : w.heap.size = bi at *
  clear hW2 hBI
  obtain ⟨mw, mt, mf, ml, mlw, mex, j0, j1, j2, j3⟩ := hM
  have mn : bi ≠ bt := by omega
  have mn2 : bt ≠ bi := by omega
  have HQ : Hid (∀ w, Rh E w rv r → Tr E w bt t → Calls Tryd.prog 59 #[.pointer (some ⟨E.bw, 0, none⟩), .pointer (some ⟨bt, 0, none⟩), .agg #[.int .i64 10, .int .i64 a, .int .i64 b, .int .i64 c]] w fun e w' => ROne E bt rv w (oneP r t ⟨10, a, b, c⟩) e w') := fun w h1 h2 => roth_10 h1 h2 HR.out.1 HR.out.2.1 HR.out.2.2.1 HR.out.2.2.2 ha hb
  go_wp2_with fail
  refine (HQ.out _ mw mt).mono ?_
  rintro e w3 ⟨rfl, hw3, ht3, hf3⟩
  go_wp2_with fail
  exact bodyPost_end (v := .tuple #[]) (by simp [results, Tryd.results36, go_sem]) rfl ⟨rfl, hw3, ht3, mf.trans hf3⟩
end Go.Proofs.YtpmapdialjdcbaaDoor
namespace Go.Proofs.YtpmapdialjdcbaaDoor
open Go.RowKit
open C2 (In Pr SlF SlI InsAt still_of_below below_then)

set_option maxHeartbeats 2000000 in
set_option maxRecDepth 4000 in
theorem roth_11 {E : Ev7} {w : World} {rv : Value} {r : Rs} {t : Ts} {bt a b : Nat} {c : Int} (hw : Rh E w rv r) (ht : Tr E w bt t) (hl : t.reg.length = 8) (hr : ∀ x ∈ t.reg, wrp x = x) (hh : t.has.length = 4) (hn : t.hand.length = 4) (hb : b < 8) (hfu : a < r.was.length) (hfl : r.futs.length = r.was.length) :
    Calls Tryd.prog 59 #[.pointer (some ⟨E.bw, 0, none⟩), .pointer (some ⟨bt, 0, none⟩), .agg #[.int .i64 11, .int .i64 a, .int .i64 b, .int .i64 c]] w fun e w' => ROne E bt rv w (oneP r t ⟨11, a, b, c⟩) e w' := by
  have hM := Mr.made 11 a b c hw ht
  have HO : Hid (oneP r t ⟨11, a, b, c⟩ = (if r.was.getD a false = true then (r, t.ends 3) else ({ r with was := r.was.set a true, futs := r.futs.set a (t.reg.getD b 0) }, t))) := by show _ = _; simp [oneP, rg]
  have HR : Hid (t.reg.length = 8 ∧ (∀ x ∈ t.reg, wrp x = x) ∧ t.has.length = 4 ∧ t.hand.length = 4) := ⟨hl, hr, hh, hn⟩
  clear hl hr hh hn hw ht
  go_enter Tryd.func59, Tryd.ntmps59
  go_upto_region 21 with fail
  generalize hW2 : w.alloc (.cells #[.int .i64 11, .int .i64 a, .int .i64 b, .int .i64 c] 54) = w2 at *
  generalize hBI : w.heap.size = bi at *
  clear hW2 hBI
  obtain ⟨mw, mt, mf, ml, mlw, mex, j0, j1, j2, j3⟩ := hM
  have mn : bi ≠ bt := by omega
  have mn2 : bt ≠ bi := by omega
  have hbi : (b : Int) < 8 := by omega
  have f25 := mt.frozen 25
  have c25 := mt.cellAt 25
  simp [trC] at c25
  obtain ⟨gs, cap, xs, hv, hgs, hxs, cxs, fxs, hcap⟩ := own_at1 mw.was hfu
  obtain ⟨gu, cap2, xu, hv2, hgu, hxu, cxu, fxu, hcap2⟩ := own_at1 mw.fut (k := a) (by omega)
  have hne : gs ≠ gu := fun e => own_apart mw.was mw.fut (by decide) gs hgs (by rw [e]; exact hgu)
  have hne2 : gu ≠ gs := fun e => hne e.symm
  have hsb : gs ≠ bt := fun e => mt.notEx mw (.inr (.inr (by rw [← e]; exact hgs)))
  have hub : gu ≠ bt := fun e => mt.notEx mw (.inr (.inl (by rw [← e]; exact hgu)))
  have hsb2 : bt ≠ gs := fun e => hsb e.symm
  have hub2 : bt ≠ gu := fun e => hub e.symm
  have hsi : gs ≠ bi := by have := mex gs (.inr (.inr hgs)); omega
  have hsi2 : bi ≠ gs := by omega
  have hui : gu ≠ bi := by have := mex gu (.inr (.inl hgu)); omega
  have hui2 : bi ≠ gu := by omega
  have hsw : gs ≠ E.bw := fun e => own_typ mw.was mw.box (by decide) (by rw [← e]; exact hgs)
  have hsw2 : E.bw ≠ gs := fun e => hsw e.symm
  have huw : gu ≠ E.bw := fun e => own_typ mw.fut mw.box (by decide) (by rw [← e]; exact hgu)
  have huw2 : E.bw ≠ gu := fun e => huw e.symm
  have hxb : xs = .bool (r.was.getD a false) := by
    rw [List.getElem?_map, List.getElem?_eq_getElem hfu] at hxs
    simp at hxs
    rw [← hxs, List.getD_eq_getElem?_getD, List.getElem?_eq_getElem hfu]
    rfl
  have hxi : xu = .int .i64 (r.futs.getD a 0) := by
    rw [List.getElem?_map, List.getElem?_eq_getElem (by omega)] at hxu
    simp at hxu
    rw [← hxu, List.getD_eq_getElem?_getD, List.getElem?_eq_getElem (by omega)]
    rfl
  subst hxb
  subst hxi
  clear hxs hxu
  have c6 := mw.cellsAt 6
  have c5 := mw.cellsAt 5
  simp [rhC] at c5 c6
  rw [hv] at c6
  rw [hv2] at c5
  have hlw : (a : Int) < r.was.length := by omega
  have hlf : (a : Int) < r.futs.length := by omega
  have cb := mt.reg hb
  have HV : Hid (E.sv = .slice (some ⟨gs, 0, none⟩) r.was.length cap ∧ E.uv = .slice (some ⟨gu, 0, none⟩) r.futs.length cap2 ∧ Ex E gs ∧ Ex E gu ∧ E.W0.heap.size ≤ gs ∧ E.W0.heap.size ≤ gu) := ⟨hv, hv2, .inr (.inr hgs), .inr (.inl hgu), (mw.exlo (.inr (.inr hgs))).1, (mw.exlo (.inr (.inl hgu))).1⟩
  generalize t.reg.getD b 0 = y at *
  cases hbb : r.was.getD a false with
  | true =>
    rw [hbb] at HO cxs
    rw [if_pos rfl] at HO
    clear hbb hv hv2 hgs hgu
    go_wp2_with fail
    go_quiet (fail)
    go_wp2_with fail
    exact bodyPost_end (v := .tuple #[]) (by simp [results, Tryd.results59, go_sem]) rfl (by rw [HO.out]; exact ⟨rfl, (mw.drewN _).setT (mt.drewN _) _ _, (mt.drewN _).setEnds 3, (mf.drewN _).setT mt.lo _ _⟩)
  | false =>
    rw [hbb] at HO cxs
    rw [if_neg (by decide)] at HO
    clear hbb hv hv2 hgs hgu
    go_wp2_with fail
    go_quiet (fail)
    go_wp2_with fail
    have mw4 := mw.drewN nq
    have mt4 := mt.drewN nq
    have mf4 := mf.drewN nq
    have k1 : (w2.drewN nq).cell? ⟨bi, 1, none⟩ = some (.int .i64 a) := j1
    have k2 : (w2.drewN nq).cell? ⟨bi, 2, none⟩ = some (.int .i64 b) := j2
    have e6 : (w2.drewN nq).cell? ⟨E.bw, 6, none⟩ = _ := c6
    have e5 : (w2.drewN nq).cell? ⟨E.bw, 5, none⟩ = _ := c5
    have es : (w2.drewN nq).cell? ⟨gs, a, none⟩ = _ := cxs
    have eu : (w2.drewN nq).cell? ⟨gu, a, none⟩ = _ := cxu
    have gs' : (w2.drewN nq).frozen? ⟨gs, a, none⟩ = _ := fxs
    have gu' : (w2.drewN nq).frozen? ⟨gu, a, none⟩ = _ := fxu
    have cb4 : (w2.drewN nq).cell? ⟨bt, b, none⟩ = _ := cb
    generalize w2.drewN nq = w4 at *
    clear j0 j1 j2 j3 cb f25 c25 mw mt mf c5 c6 cxs cxu fxs fxu nq
    go_region
    all_goals
      go_wp2_with fail
      first
        | exact bodyPost_end (v := .tuple #[]) (by simp [results, Tryd.results59, go_sem]) rfl (by rw [HO.out]; exact ⟨rfl, (mw4.drew.setWas HV.out.1 a true).setFut HV.out.2.1 a y, (mt4.drew.setNe (fun e => hsb e.symm) _ _).setNe (fun e => hub e.symm) _ _, (mf4.drew.setEx HV.out.2.2.1 HV.out.2.2.2.2.1 _ _).setEx HV.out.2.2.2.1 HV.out.2.2.2.2.2 _ _⟩)
        | exact bodyPost_end (v := .tuple #[]) (by simp [results, Tryd.results59, go_sem]) rfl (by rw [HO.out]; exact ⟨rfl, (mw4.drew.setFut HV.out.2.1 a y).setWas HV.out.1 a true, (mt4.drew.setNe (fun e => hub e.symm) _ _).setNe (fun e => hsb e.symm) _ _, (mf4.drew.setEx HV.out.2.2.2.1 HV.out.2.2.2.2.2 _ _).setEx HV.out.2.2.1 HV.out.2.2.2.2.1 _ _⟩)
set_option maxHeartbeats 2000000 in
set_option maxRecDepth 4000 in
theorem rone_11 {E : Ev7} {w : World} {rv : Value} {r : Rs} {t : Ts} {bt a b : Nat} {c : Int} (hw : Rh E w rv r) (ht : Tr E w bt t) (hl : t.reg.length = 8) (hr : ∀ x ∈ t.reg, wrp x = x) (hh : t.has.length = 4) (hn : t.hand.length = 4) (hb : b < 8) (hfu : a < r.was.length) (hfl : r.futs.length = r.was.length) :
    Calls Tryd.prog 36 #[.pointer (some ⟨E.bw, 0, none⟩), .pointer (some ⟨bt, 0, none⟩), .agg #[.int .i64 11, .int .i64 a, .int .i64 b, .int .i64 c]] w fun e w' => ROne E bt rv w (oneP r t ⟨11, a, b, c⟩) e w' := by
  have hM := Mr.made 11 a b c hw ht
  have HO0 : Hid (oneP r t ⟨11, a, b, c⟩ = oneP r t ⟨11, a, b, c⟩) := by show _ = _; rfl
  have HR : Hid (t.reg.length = 8 ∧ (∀ x ∈ t.reg, wrp x = x) ∧ t.has.length = 4 ∧ t.hand.length = 4) := ⟨hl, hr, hh, hn⟩
  clear hl hr hh hn hw ht
  go_enter Tryd.func36, Tryd.ntmps36
  go_upto_region 2 with fail
  generalize hW2 : w.alloc (.cells #[.int .i64 11, .int .i64 a, .int .i64 b, .int .i64 c] 54) = w2 at *
  generalize hBI : w.heap.size = bi at *
  clear hW2 hBI
  obtain ⟨mw, mt, mf, ml, mlw, mex, j0, j1, j2, j3⟩ := hM
  have mn : bi ≠ bt := by omega
  have mn2 : bt ≠ bi := by omega
  have HQ : Hid (∀ w, Rh E w rv r → Tr E w bt t → Calls Tryd.prog 59 #[.pointer (some ⟨E.bw, 0, none⟩), .pointer (some ⟨bt, 0, none⟩), .agg #[.int .i64 11, .int .i64 a, .int .i64 b, .int .i64 c]] w fun e w' => ROne E bt rv w (oneP r t ⟨11, a, b, c⟩) e w') := fun w h1 h2 => roth_11 h1 h2 HR.out.1 HR.out.2.1 HR.out.2.2.1 HR.out.2.2.2 hb hfu hfl
  go_wp2_with fail
  refine (HQ.out _ mw mt).mono ?_
  rintro e w3 ⟨rfl, hw3, ht3, hf3⟩
  go_wp2_with fail
  exact bodyPost_end (v := .tuple #[]) (by simp [results, Tryd.results36, go_sem]) rfl ⟨rfl, hw3, ht3, mf.trans hf3⟩
end Go.Proofs.YtpmapdialjdcbaaDoor
namespace Go.Proofs.YtpmapdialjdcbaaDoor
open Go.RowKit
open C2 (In Pr SlF SlI InsAt still_of_below below_then)

set_option maxHeartbeats 2000000 in
set_option maxRecDepth 4000 in
theorem roth_12 {E : Ev7} {w : World} {rv : Value} {r : Rs} {t : Ts} {bt a b : Nat} {c : Int} (hw : Rh E w rv r) (ht : Tr E w bt t) (hl : t.reg.length = 8) (hr : ∀ x ∈ t.reg, wrp x = x) (hh : t.has.length = 4) (hn : t.hand.length = 4) (ha : a < 8) (hfu : b < r.was.length) (hfl : r.futs.length = r.was.length) :
    Calls Tryd.prog 59 #[.pointer (some ⟨E.bw, 0, none⟩), .pointer (some ⟨bt, 0, none⟩), .agg #[.int .i64 12, .int .i64 a, .int .i64 b, .int .i64 c]] w fun e w' => ROne E bt rv w (oneP r t ⟨12, a, b, c⟩) e w' := by
  have hM := Mr.made 12 a b c hw ht
  have HO : Hid (oneP r t ⟨12, a, b, c⟩ = (if r.was.getD b false = false then (r, t.ends 4) else (r, t.put a (r.futs.getD b 0)))) := by show _ = _; simp [oneP]
  have HR : Hid (t.reg.length = 8 ∧ (∀ x ∈ t.reg, wrp x = x) ∧ t.has.length = 4 ∧ t.hand.length = 4) := ⟨hl, hr, hh, hn⟩
  clear hl hr hh hn hw ht
  go_enter Tryd.func59, Tryd.ntmps59
  go_upto_region 25 with fail
  generalize hW2 : w.alloc (.cells #[.int .i64 12, .int .i64 a, .int .i64 b, .int .i64 c] 54) = w2 at *
  generalize hBI : w.heap.size = bi at *
  clear hW2 hBI
  obtain ⟨mw, mt, mf, ml, mlw, mex, j0, j1, j2, j3⟩ := hM
  have mn : bi ≠ bt := by omega
  have mn2 : bt ≠ bi := by omega
  have hai : (a : Int) < 8 := by omega
  have f25 := mt.frozen 25
  have c25 := mt.cellAt 25
  simp [trC] at c25
  obtain ⟨gs, cap, xs, hv, hgs, hxs, cxs, fxs, hcap⟩ := own_at1 mw.was hfu
  obtain ⟨gu, cap2, xu, hv2, hgu, hxu, cxu, fxu, hcap2⟩ := own_at1 mw.fut (k := b) (by omega)
  have hne : gs ≠ gu := fun e => own_apart mw.was mw.fut (by decide) gs hgs (by rw [e]; exact hgu)
  have hne2 : gu ≠ gs := fun e => hne e.symm
  have hsb : gs ≠ bt := fun e => mt.notEx mw (.inr (.inr (by rw [← e]; exact hgs)))
  have hub : gu ≠ bt := fun e => mt.notEx mw (.inr (.inl (by rw [← e]; exact hgu)))
  have hsb2 : bt ≠ gs := fun e => hsb e.symm
  have hub2 : bt ≠ gu := fun e => hub e.symm
  have hsi : gs ≠ bi := by have := mex gs (.inr (.inr hgs)); omega
  have hsi2 : bi ≠ gs := by omega
  have hui : gu ≠ bi := by have := mex gu (.inr (.inl hgu)); omega
  have hui2 : bi ≠ gu := by omega
  have hsw : gs ≠ E.bw := fun e => own_typ mw.was mw.box (by decide) (by rw [← e]; exact hgs)
  have hsw2 : E.bw ≠ gs := fun e => hsw e.symm
  have huw : gu ≠ E.bw := fun e => own_typ mw.fut mw.box (by decide) (by rw [← e]; exact hgu)
  have huw2 : E.bw ≠ gu := fun e => huw e.symm
  have hxb : xs = .bool (r.was.getD b false) := by
    rw [List.getElem?_map, List.getElem?_eq_getElem hfu] at hxs
    simp at hxs
    rw [← hxs, List.getD_eq_getElem?_getD, List.getElem?_eq_getElem hfu]
    rfl
  have hxi : xu = .int .i64 (r.futs.getD b 0) := by
    rw [List.getElem?_map, List.getElem?_eq_getElem (by omega)] at hxu
    simp at hxu
    rw [← hxu, List.getD_eq_getElem?_getD, List.getElem?_eq_getElem (by omega)]
    rfl
  subst hxb
  subst hxi
  clear hxs hxu
  have c6 := mw.cellsAt 6
  have c5 := mw.cellsAt 5
  simp [rhC] at c5 c6
  rw [hv] at c6
  rw [hv2] at c5
  have hlw : (b : Int) < r.was.length := by omega
  have hlf : (b : Int) < r.futs.length := by omega
  have ca := mt.reg ha
  generalize r.futs.getD b 0 = y at *
  cases hbb : r.was.getD b false with
  | false =>
    rw [hbb] at HO cxs
    rw [if_pos rfl] at HO
    clear hbb hv hv2 hgs hgu
    go_wp2_with fail
    go_quiet (fail)
    go_wp2_with fail
    exact bodyPost_end (v := .tuple #[]) (by simp [results, Tryd.results59, go_sem]) rfl (by rw [HO.out]; exact ⟨rfl, (mw.drewN _).setT (mt.drewN _) _ _, (mt.drewN _).setEnds 4, (mf.drewN _).setT mt.lo _ _⟩)
  | true =>
    rw [hbb] at HO cxs
    rw [if_neg (by decide)] at HO
    clear hbb hv hv2 hgs hgu
    go_wp2_with fail
    go_quiet (fail)
    go_wp2_with fail
    have mw4 := mw.drewN nq
    have mt4 := mt.drewN nq
    have mf4 := mf.drewN nq
    have k1 : (w2.drewN nq).cell? ⟨bi, 1, none⟩ = some (.int .i64 a) := j1
    have k2 : (w2.drewN nq).cell? ⟨bi, 2, none⟩ = some (.int .i64 b) := j2
    have e6 : (w2.drewN nq).cell? ⟨E.bw, 6, none⟩ = _ := c6
    have e5 : (w2.drewN nq).cell? ⟨E.bw, 5, none⟩ = _ := c5
    have eu : (w2.drewN nq).cell? ⟨gu, b, none⟩ = _ := cxu
    have ca4 : (w2.drewN nq).cell? ⟨bt, a, none⟩ = _ := ca
    have fa4 := mt4.frozen a
    generalize w2.drewN nq = w4 at *
    clear j0 j1 j2 j3 ca f25 c25 mw mt mf c5 c6 cxs cxu fxs fxu nq
    go_region
    all_goals
      go_wp2_with fail
      exact bodyPost_end (v := .tuple #[]) (by simp [results, Tryd.results59, go_sem]) rfl (by rw [HO.out]; exact ⟨rfl, mw4.drew.setT mt4.drew _ _, mt4.drew.setReg HR.out.1 ha _, mf4.drew.setT mt4.lo _ _⟩)
set_option maxHeartbeats 2000000 in
set_option maxRecDepth 4000 in
theorem rone_12 {E : Ev7} {w : World} {rv : Value} {r : Rs} {t : Ts} {bt a b : Nat} {c : Int} (hw : Rh E w rv r) (ht : Tr E w bt t) (hl : t.reg.length = 8) (hr : ∀ x ∈ t.reg, wrp x = x) (hh : t.has.length = 4) (hn : t.hand.length = 4) (ha : a < 8) (hfu : b < r.was.length) (hfl : r.futs.length = r.was.length) :
    Calls Tryd.prog 36 #[.pointer (some ⟨E.bw, 0, none⟩), .pointer (some ⟨bt, 0, none⟩), .agg #[.int .i64 12, .int .i64 a, .int .i64 b, .int .i64 c]] w fun e w' => ROne E bt rv w (oneP r t ⟨12, a, b, c⟩) e w' := by
  have hM := Mr.made 12 a b c hw ht
  have HO0 : Hid (oneP r t ⟨12, a, b, c⟩ = oneP r t ⟨12, a, b, c⟩) := by show _ = _; rfl
  have HR : Hid (t.reg.length = 8 ∧ (∀ x ∈ t.reg, wrp x = x) ∧ t.has.length = 4 ∧ t.hand.length = 4) := ⟨hl, hr, hh, hn⟩
  clear hl hr hh hn hw ht
  go_enter Tryd.func36, Tryd.ntmps36
  go_upto_region 2 with fail
  generalize hW2 : w.alloc (.cells #[.int .i64 12, .int .i64 a, .int .i64 b, .int .i64 c] 54) = w2 at *
  generalize hBI : w.heap.size = bi at *
  clear hW2 hBI
  obtain ⟨mw, mt, mf, ml, mlw, mex, j0, j1, j2, j3⟩ := hM
  have mn : bi ≠ bt := by omega
  have mn2 : bt ≠ bi := by omega
  have HQ : Hid (∀ w, Rh E w rv r → Tr E w bt t → Calls Tryd.prog 59 #[.pointer (some ⟨E.bw, 0, none⟩), .pointer (some ⟨bt, 0, none⟩), .agg #[.int .i64 12, .int .i64 a, .int .i64 b, .int .i64 c]] w fun e w' => ROne E bt rv w (oneP r t ⟨12, a, b, c⟩) e w') := fun w h1 h2 => roth_12 h1 h2 HR.out.1 HR.out.2.1 HR.out.2.2.1 HR.out.2.2.2 ha hfu hfl
  go_wp2_with fail
  refine (HQ.out _ mw mt).mono ?_
  rintro e w3 ⟨rfl, hw3, ht3, hf3⟩
  go_wp2_with fail
  exact bodyPost_end (v := .tuple #[]) (by simp [results, Tryd.results36, go_sem]) rfl ⟨rfl, hw3, ht3, mf.trans hf3⟩
end Go.Proofs.YtpmapdialjdcbaaDoor
namespace Go.Proofs.YtpmapdialjdcbaaDoor
open Go.RowKit
open C2 (In Pr SlF SlI InsAt still_of_below below_then)

set_option maxHeartbeats 2000000 in
set_option maxRecDepth 4000 in
theorem roth_13 {E : Ev7} {w : World} {rv : Value} {r : Rs} {t : Ts} {bt a : Nat} {b c : Int} (hw : Rh E w rv r) (ht : Tr E w bt t) (hl : t.reg.length = 8) (hr : ∀ x ∈ t.reg, wrp x = x) (hh : t.has.length = 4) (hn : t.hand.length = 4) (ha : a < 4) :
    Calls Tryd.prog 59 #[.pointer (some ⟨E.bw, 0, none⟩), .pointer (some ⟨bt, 0, none⟩), .agg #[.int .i64 13, .int .i64 a, .int .i64 b, .int .i64 c]] w fun e w' => ROne E bt rv w (oneP r t ⟨13, a, b, c⟩) e w' := by
  have hM := Mr.made 13 a b c hw ht
  have HO : Hid (oneP r t ⟨13, a, b, c⟩ = (r, if t.has.getD a false = false then t.ends 7 else t)) := by show _ = _; simp [oneP]
  have HR : Hid (t.reg.length = 8 ∧ (∀ x ∈ t.reg, wrp x = x) ∧ t.has.length = 4 ∧ t.hand.length = 4) := ⟨hl, hr, hh, hn⟩
  clear hl hr hh hn hw ht
  go_enter Tryd.func59, Tryd.ntmps59
  go_upto_region 29 with fail
  generalize hW2 : w.alloc (.cells #[.int .i64 13, .int .i64 a, .int .i64 b, .int .i64 c] 54) = w2 at *
  generalize hBI : w.heap.size = bi at *
  clear hW2 hBI
  obtain ⟨mw, mt, mf, ml, mlw, mex, j0, j1, j2, j3⟩ := hM
  have mn : bi ≠ bt := by omega
  have mn2 : bt ≠ bi := by omega
  have hai : (a : Int) < 4 := by omega
  have f25 := mt.frozen 25
  have c25 := mt.cellAt 25
  simp [trC] at c25
  have ca := mt.has ha
  cases hb : t.has.getD a false with
  | false =>
    rw [hb] at HO ca
    rw [if_pos rfl] at HO
    clear hb
    go_wp2_with fail
    go_quiet (fail)
    go_wp2_with fail
    exact bodyPost_end (v := .tuple #[]) (by simp [results, Tryd.results59, go_sem]) rfl (by rw [HO.out]; exact ⟨rfl, (mw.drewN _).setT (mt.drewN _) _ _, (mt.drewN _).setEnds 7, (mf.drewN _).setT mt.lo _ _⟩)
  | true =>
    rw [hb] at HO ca
    rw [if_neg (by decide)] at HO
    clear hb
    go_wp2_with fail
    go_quiet (fail)
    go_wp2_with fail
    exact bodyPost_end (v := .tuple #[]) (by simp [results, Tryd.results59, go_sem]) rfl (by rw [HO.out]; exact ⟨rfl, mw.drewN _, mt.drewN _, mf.drewN _⟩)
set_option maxHeartbeats 2000000 in
set_option maxRecDepth 4000 in
theorem rone_13 {E : Ev7} {w : World} {rv : Value} {r : Rs} {t : Ts} {bt a : Nat} {b c : Int} (hw : Rh E w rv r) (ht : Tr E w bt t) (hl : t.reg.length = 8) (hr : ∀ x ∈ t.reg, wrp x = x) (hh : t.has.length = 4) (hn : t.hand.length = 4) (ha : a < 4) :
    Calls Tryd.prog 36 #[.pointer (some ⟨E.bw, 0, none⟩), .pointer (some ⟨bt, 0, none⟩), .agg #[.int .i64 13, .int .i64 a, .int .i64 b, .int .i64 c]] w fun e w' => ROne E bt rv w (oneP r t ⟨13, a, b, c⟩) e w' := by
  have hM := Mr.made 13 a b c hw ht
  have HO0 : Hid (oneP r t ⟨13, a, b, c⟩ = oneP r t ⟨13, a, b, c⟩) := by show _ = _; rfl
  have HR : Hid (t.reg.length = 8 ∧ (∀ x ∈ t.reg, wrp x = x) ∧ t.has.length = 4 ∧ t.hand.length = 4) := ⟨hl, hr, hh, hn⟩
  clear hl hr hh hn hw ht
  go_enter Tryd.func36, Tryd.ntmps36
  go_upto_region 2 with fail
  generalize hW2 : w.alloc (.cells #[.int .i64 13, .int .i64 a, .int .i64 b, .int .i64 c] 54) = w2 at *
  generalize hBI : w.heap.size = bi at *
  clear hW2 hBI
  obtain ⟨mw, mt, mf, ml, mlw, mex, j0, j1, j2, j3⟩ := hM
  have mn : bi ≠ bt := by omega
  have mn2 : bt ≠ bi := by omega
  have HQ : Hid (∀ w, Rh E w rv r → Tr E w bt t → Calls Tryd.prog 59 #[.pointer (some ⟨E.bw, 0, none⟩), .pointer (some ⟨bt, 0, none⟩), .agg #[.int .i64 13, .int .i64 a, .int .i64 b, .int .i64 c]] w fun e w' => ROne E bt rv w (oneP r t ⟨13, a, b, c⟩) e w') := fun w h1 h2 => roth_13 h1 h2 HR.out.1 HR.out.2.1 HR.out.2.2.1 HR.out.2.2.2 ha
  go_wp2_with fail
  refine (HQ.out _ mw mt).mono ?_
  rintro e w3 ⟨rfl, hw3, ht3, hf3⟩
  go_wp2_with fail
  exact bodyPost_end (v := .tuple #[]) (by simp [results, Tryd.results36, go_sem]) rfl ⟨rfl, hw3, ht3, mf.trans hf3⟩
end Go.Proofs.YtpmapdialjdcbaaDoor
namespace Go.Proofs.YtpmapdialjdcbaaDoor
open Go.RowKit
open C2 (In Pr SlF SlI InsAt still_of_below below_then)

set_option maxHeartbeats 2000000 in
set_option maxRecDepth 4000 in
theorem roth_14 {E : Ev7} {w : World} {rv : Value} {r : Rs} {t : Ts} {bt : Nat} {a b c : Int} (hw : Rh E w rv r) (ht : Tr E w bt t) (hl : t.reg.length = 8) (hr : ∀ x ∈ t.reg, wrp x = x) (hh : t.has.length = 4) (hn : t.hand.length = 4) :
    Calls Tryd.prog 59 #[.pointer (some ⟨E.bw, 0, none⟩), .pointer (some ⟨bt, 0, none⟩), .agg #[.int .i64 14, .int .i64 a, .int .i64 b, .int .i64 c]] w fun e w' => ROne E bt rv w (oneP r t ⟨14, a, b, c⟩) e w' := by
  have hM := Mr.made 14 a b c hw ht
  have HO : Hid (oneP r t ⟨14, a, b, c⟩ = (r, t)) := by show _ = _; simp [oneP]
  have HR : Hid (t.reg.length = 8 ∧ (∀ x ∈ t.reg, wrp x = x) ∧ t.has.length = 4 ∧ t.hand.length = 4) := ⟨hl, hr, hh, hn⟩
  clear hl hr hh hn hw ht
  go_enter Tryd.func59, Tryd.ntmps59
  go_wp2_with fail
  generalize hW2 : w.alloc (.cells #[.int .i64 14, .int .i64 a, .int .i64 b, .int .i64 c] 54) = w2 at *
  generalize hBI : w.heap.size = bi at *
  clear hW2 hBI
  obtain ⟨mw, mt, mf, ml, mlw, mex, j0, j1, j2, j3⟩ := hM
  have mn : bi ≠ bt := by omega
  have mn2 : bt ≠ bi := by omega
  exact bodyPost_end (v := .tuple #[]) (by simp [results, Tryd.results59, go_sem]) rfl (by rw [HO.out]; exact ⟨rfl, mw, mt, mf⟩)
set_option maxHeartbeats 2000000 in
set_option maxRecDepth 4000 in
theorem rone_14 {E : Ev7} {w : World} {rv : Value} {r : Rs} {t : Ts} {bt : Nat} {a b c : Int} (hw : Rh E w rv r) (ht : Tr E w bt t) (hl : t.reg.length = 8) (hr : ∀ x ∈ t.reg, wrp x = x) (hh : t.has.length = 4) (hn : t.hand.length = 4) :
    Calls Tryd.prog 36 #[.pointer (some ⟨E.bw, 0, none⟩), .pointer (some ⟨bt, 0, none⟩), .agg #[.int .i64 14, .int .i64 a, .int .i64 b, .int .i64 c]] w fun e w' => ROne E bt rv w (oneP r t ⟨14, a, b, c⟩) e w' := by
  have hM := Mr.made 14 a b c hw ht
  have HO0 : Hid (oneP r t ⟨14, a, b, c⟩ = oneP r t ⟨14, a, b, c⟩) := by show _ = _; rfl
  have HR : Hid (t.reg.length = 8 ∧ (∀ x ∈ t.reg, wrp x = x) ∧ t.has.length = 4 ∧ t.hand.length = 4) := ⟨hl, hr, hh, hn⟩
  clear hl hr hh hn hw ht
  go_enter Tryd.func36, Tryd.ntmps36
  go_upto_region 2 with fail
  generalize hW2 : w.alloc (.cells #[.int .i64 14, .int .i64 a, .int .i64 b, .int .i64 c] 54) = w2 at *
  generalize hBI : w.heap.size = bi at *
  clear hW2 hBI
  obtain ⟨mw, mt, mf, ml, mlw, mex, j0, j1, j2, j3⟩ := hM
  have mn : bi ≠ bt := by omega
  have mn2 : bt ≠ bi := by omega
  have HQ : Hid (∀ w, Rh E w rv r → Tr E w bt t → Calls Tryd.prog 59 #[.pointer (some ⟨E.bw, 0, none⟩), .pointer (some ⟨bt, 0, none⟩), .agg #[.int .i64 14, .int .i64 a, .int .i64 b, .int .i64 c]] w fun e w' => ROne E bt rv w (oneP r t ⟨14, a, b, c⟩) e w') := fun w h1 h2 => roth_14 h1 h2 HR.out.1 HR.out.2.1 HR.out.2.2.1 HR.out.2.2.2
  go_wp2_with fail
  refine (HQ.out _ mw mt).mono ?_
  rintro e w3 ⟨rfl, hw3, ht3, hf3⟩
  go_wp2_with fail
  exact bodyPost_end (v := .tuple #[]) (by simp [results, Tryd.results36, go_sem]) rfl ⟨rfl, hw3, ht3, mf.trans hf3⟩
end Go.Proofs.YtpmapdialjdcbaaDoor
namespace Go.Proofs.YtpmapdialjdcbaaDoor
open Go.RowKit
open C2 (In Pr SlF SlI InsAt still_of_below below_then)

set_option maxHeartbeats 2000000 in
set_option maxRecDepth 4000 in
theorem rone_15 {E : Ev7} {w : World} {rv : Value} {r : Rs} {t : Ts} {bt a : Nat} {b c : Int} (hw : Rh E w rv r) (ht : Tr E w bt t) (hl : t.reg.length = 8) (hr : ∀ x ∈ t.reg, wrp x = x) (hh : t.has.length = 4) (hn : t.hand.length = 4) (ha : a < 8) :
    Calls Tryd.prog 36 #[.pointer (some ⟨E.bw, 0, none⟩), .pointer (some ⟨bt, 0, none⟩), .agg #[.int .i64 15, .int .i64 a, .int .i64 b, .int .i64 c]] w fun e w' => ROne E bt rv w (oneP r t ⟨15, a, b, c⟩) e w' := by
  have hM := Mr.made 15 a b c hw ht
  have HO : Hid (oneP r t ⟨15, a, b, c⟩ = (r, { t with e := ⟨1, t.reg.getD a 0⟩ })) := by show _ = _; simp [oneP, rg]
  have HR : Hid (t.reg.length = 8 ∧ (∀ x ∈ t.reg, wrp x = x) ∧ t.has.length = 4 ∧ t.hand.length = 4) := ⟨hl, hr, hh, hn⟩
  clear hl hr hh hn hw ht
  go_enter Tryd.func36, Tryd.ntmps36
  go_upto_region 24 with fail
  generalize hW2 : w.alloc (.cells #[.int .i64 15, .int .i64 a, .int .i64 b, .int .i64 c] 54) = w2 at *
  generalize hBI : w.heap.size = bi at *
  clear hW2 hBI
  obtain ⟨mw, mt, mf, ml, mlw, mex, j0, j1, j2, j3⟩ := hM
  have mn : bi ≠ bt := by omega
  have mn2 : bt ≠ bi := by omega
  have hai : (a : Int) < 8 := by omega
  have ca := mt.reg ha
  have f25 := mt.frozen 25
  have f26 := mt.frozen 26
  have c25 := mt.cellAt 25
  have c26 := mt.cellAt 26
  simp [trC] at c25 c26
  generalize t.reg.getD a 0 = y at *
  go_wp2_with fail
  go_region
  all_goals
    go_wp2_with fail
    exact bodyPost_end (v := .tuple #[]) (by simp [results, Tryd.results36, go_sem]) rfl (by rw [HO.out]; exact ⟨rfl, mw.drew.setT2 mt.drew _ _ _ _, mt.drew.setE 1 y, mf.drew.setT2 mt.lo _ _ _ _⟩)
end Go.Proofs.YtpmapdialjdcbaaDoor
namespace Go.Proofs.YtpmapdialjdcbaaDoor
open Go.RowKit
open C2 (In Pr SlF SlI InsAt still_of_below below_then)
open K6 (Ky)

set_option maxRecDepth 4000 in
theorem step_fuel {E : Ev7} {w : World} {bt : Nat} {cv : Value} {t : Ts} (ht : Tk7 E w bt cv t) (hf : t.fuel = 0) : Calls Tryd.prog 51 #[.pointer (some ⟨bt, 0, none⟩)] w fun e w' => e = pan ⟨5, 0⟩ ∧ w' = w := by
  have q := spend_none ht hf
  clear ht hf
  go_enter Tryd.func51, Tryd.ntmps51
  go_wp2_with fail
  refine q.mono ?_
  rintro e w' ⟨rfl, rfl⟩
  go_wp2_with fail
  exact ⟨rfl, rfl, rfl⟩
set_option maxRecDepth 4000 in
theorem step_over {E : Ev7} {w : World} {d : Wd} {bt : Nat} {cv : Value} {t : Ts} (hw : Wh E w d) (ht : Tk7 E w bt cv t) (hf : t.fuel ≠ 0) (hf2 : t.fuel ≤ 500) (hs : d.st ≤ 1000000) (ho : E.M ≤ d.st) : Calls Tryd.prog 51 #[.pointer (some ⟨bt, 0, none⟩)] w fun e w' => e = pan ⟨0, 0⟩ ∧ Wh E w' { d with st := d.st + 1 } ∧ Fr7 E (some bt) w w' := by
  have q := spend_some hw ht hf hf2 hs
  rw [if_pos (by omega)] at q
  clear hw ht hf hs ho hf2
  go_enter Tryd.func51, Tryd.ntmps51
  go_wp2_with fail
  refine q.mono ?_
  rintro e w' ⟨rfl, h1, h2, h3⟩
  go_wp2_with fail
  exact ⟨rfl, rfl, h1, h3⟩
/-- there are never more instructions than there may be -/
theorem ev_le {p : Pg7} {M : Nat} : ∀ (n : Nat) (r : Rs) (t : Ts), M - r.steps ≤ n → r.steps ≤ M → (ev7 p M r t).1.steps ≤ M := by
  intro n
  induction n with
  | zero =>
    intro r t hn hM
    rcases goes_or M r t with h | ⟨h1, h2, h3⟩ | ⟨h1, h2, h3, h4⟩ | h
    · rw [ev7, evP_end p M depK chY h]; exact hM
    · rw [ev7, evP_fuel p M depK chY h1 h2 h3]; exact hM
    · rw [ev7, evP_over p M depK chY h1 h2 h3 h4]; exact hM
    · have := h.2.2.2; omega
  | succ n ih =>
    intro r t hn hM
    rcases goes_or M r t with h | ⟨h1, h2, h3⟩ | ⟨h1, h2, h3, h4⟩ | h
    · rw [ev7, evP_end p M depK chY h]; exact hM
    · rw [ev7, evP_fuel p M depK chY h1 h2 h3]; exact hM
    · rw [ev7, evP_over p M depK chY h1 h2 h3 h4]; exact hM
    · have hs := h.2.2.2
      rcases evP_ways p depK chY h with ⟨r', t', k1, k2, k3, k4⟩ | k
      · rw [ev7, k3]
        exact ih r' t' (by omega) (by omega)
      · rw [ev7, k M h]
        have hf : (forkR (up1 r)).steps = r.steps + 1 := rfl
        have m1 := evP_mono p M depK chY (forkR (up1 r)) (kidT p chY t)
        have m2 := ih (forkR (up1 r)) (kidT p chY t) (by omega) (by omega)
        unfold ev7 at m2
        refine ih _ _ ?_ ?_
        · rw [(told_steps _ _ _ _ _).1]; omega
        · rw [(told_steps _ _ _ _ _).1]; omega
end Go.Proofs.YtpmapdialjdcbaaDoor
namespace Go.Proofs.YtpmapdialjdcbaaDoor
open Go.RowKit
open C2 (In Pr SlF SlI InsAt still_of_below below_then)
open K6 (Ky)

set_option maxHeartbeats 2000000 in
set_option maxRecDepth 4000 in
theorem step_1 {E : Ev7} {w : World} {d : Wd} {bt : Nat} {cv : Value} {r : Rs} {t : Ts} {tk : Ky} (h : Pre7 E w d bt cv r t tk) (hg : goesB E.M r t) (ho : (ins7 E.p t).o = 1) : Calls Tryd.prog 51 #[.pointer (some ⟨bt, 0, none⟩)] w fun e w' => StOne E bt cv w d r t e w' := by
  have hx := (h.hp.fn _ h.st.fnm).2.2.2 _ (h.st.insm hg.1)
  have hs := shape_facts hx.1
  have hr := V5.right_iff.1 hx.2
  obtain ⟨g, f, cap, m, rfl, hat, hm, hI⟩ := h.code hg.1
  have HSP := h.spend hg
  have HE : Hid (t.e = en0) := en_zero h.st.tok hg.1
  have hst := h.st
  have hmt := h.mt
  have hati : (t.at_ : Int) < m := by omega
  unfold StOne
  generalize hX : ins7 E.p t = x at *
  obtain ⟨xo, xa, xb, xc⟩ := x
  simp only at ho
  subst ho
  obtain ⟨a, rfl⟩ : ∃ a : Nat, xa = a := ⟨xa.toNat, by have := hs.a0; have := hs.c0; have := hs.b0; simp only at *; omega⟩
  have H : Hid (Pre7 E w d bt (.slice (some ⟨g, f, none⟩) m cap) r t tk) := h
  have HI : Hid (∀ w' d', Wh E w' d' → InsAt w' g (f + t.at_ * 4) ⟨1, a, xb, xc⟩) := hI
  have HST : Hid (St7 E.p r t tk) := hst
  have HMT : Hid (Mt d r) := hmt
  have ha : a < 8 := by have := hs.r; simp only at this; omega
  have hai : (a : Int) < 8 := by omega
  have hw32 : wrp xb = xb := by have := hs.c1 rfl; simp only at this; exact wrp_fix this.1 this.2
  have HO : Hid ((oneP (up1 r) (down1 t) ⟨1, a, xb, xc⟩).1 = up1 r ∧ (oneP (up1 r) (down1 t) ⟨1, a, xb, xc⟩).2 = (down1 t).put a xb) := by show _ ∧ _; constructor <;> simp [oneP]
  clear h hI hst hmt hx hs hr hX
  go_enter Tryd.func51, Tryd.ntmps51
  go_wp2_with fail
  refine HSP.mono ?_
  rintro e w1 ⟨rfl, hw1, ht1, hF1⟩
  have hMid := Mid7.made (x := ⟨1, a, xb, xc⟩) hw1 ht1 hF1
  obtain ⟨i0, i1, i2, i3⟩ := HI.out w1 _ hw1
  have c2 := ht1.cellAt 2
  have c3 := ht1.cellAt 3
  have fz3 := ht1.frozen 3
  have hlt := ht1.lt
  simp [tkC] at c2 c3
  simp only at i0 i1 i2 i3 hMid
  have hltg : g < w1.heap.size := block_lt_of_cell i0
  clear HSP
  go_wp2_with fail
  go_region
  go_upto_region 4 with fail
  generalize hW2 : ((w1.setCell ⟨bt, 3, none⟩ (.int .i64 ((t.at_ : Int) + 1))).alloc (.cells #[.int .i64 1, .int .i64 a, .int .i64 xb, .int .i64 xc] 54)).drew = w2 at *
  generalize hBI : w1.heap.size = bi at *
  clear hW2 i0 i1 i2 i3 c2 c3 fz3 hlt hltg hw1 ht1 hF1 hBI
  obtain ⟨mw, mt, mf, mn, j0, j1, j2, j3⟩ := hMid
  simp only at j0 j1 j2 j3
  have mn2 : bt ≠ bi := fun e => mn e.symm
  have hE1 : Hid ((down1 t).e = en0) := HE.out
  have hlen : Hid ((down1 t).reg.length = 8) := HST.out.reg
  have hR32 : Hid (∀ x ∈ (down1 t).reg, wrp x = x) := HST.out.r32
  have ca := mt.reg ha
  have fa := mt.frozen (6 + a)
  have q := fun w => V1.wrap_any xb w
  rw [v_wrap, hw32] at q
  clear hw32
  go_wp2_with fail
  go_region_law (go_simp; go_at_call 23; refine (q _).mono ?_; rintro e w3 ⟨rfl, rfl⟩)
  all_goals
    go_wp2_with fail
    exact bodyPost_end (v := .tuple #[]) (by simp [results, Tryd.results51, go_sem]) rfl (st_one (d' := { d with st := d.st + 1 }) HO ⟨.inl ⟨by show t.e.h = 0; rw [HE.out]; rfl, rfl, mt.drew.setReg hlen.out ha _⟩, mw.drew.setT mt.drew _ _, mf.drew.setT mt.lo _ _⟩ HMT.out.up rfl)
end Go.Proofs.YtpmapdialjdcbaaDoor
namespace Go.Proofs.YtpmapdialjdcbaaDoor
open Go.RowKit
open C2 (In Pr SlF SlI InsAt still_of_below below_then)
open K6 (Ky)

set_option maxHeartbeats 2000000 in
set_option maxRecDepth 4000 in
theorem step_2 {E : Ev7} {w : World} {d : Wd} {bt : Nat} {cv : Value} {r : Rs} {t : Ts} {tk : Ky} (h : Pre7 E w d bt cv r t tk) (hg : goesB E.M r t) (ho : (ins7 E.p t).o = 2) : Calls Tryd.prog 51 #[.pointer (some ⟨bt, 0, none⟩)] w fun e w' => StOne E bt cv w d r t e w' := by
  have hx := (h.hp.fn _ h.st.fnm).2.2.2 _ (h.st.insm hg.1)
  have hs := shape_facts hx.1
  have hr := V5.right_iff.1 hx.2
  obtain ⟨g, f, cap, m, rfl, hat, hm, hI⟩ := h.code hg.1
  have HSP := h.spend hg
  have HE : Hid (t.e = en0) := en_zero h.st.tok hg.1
  have hst := h.st
  have hmt := h.mt
  have hati : (t.at_ : Int) < m := by omega
  unfold StOne
  generalize hX : ins7 E.p t = x at *
  obtain ⟨xo, xa, xb, xc⟩ := x
  simp only at ho
  subst ho
  obtain ⟨a, rfl⟩ : ∃ a : Nat, xa = a := ⟨xa.toNat, by have := hs.a0; have := hs.c0; have := hs.b0; simp only at *; omega⟩
  obtain ⟨b, rfl⟩ : ∃ b : Nat, xb = b := ⟨xb.toNat, by have := hs.a0; have := hs.c0; have := hs.b0; simp only at *; omega⟩
  obtain ⟨c, rfl⟩ : ∃ c : Nat, xc = c := ⟨xc.toNat, by have := hs.a0; have := hs.c0; have := hs.b0; simp only at *; omega⟩
  have H : Hid (Pre7 E w d bt (.slice (some ⟨g, f, none⟩) m cap) r t tk) := h
  have HI : Hid (∀ w' d', Wh E w' d' → InsAt w' g (f + t.at_ * 4) ⟨2, a, b, c⟩) := hI
  have HST : Hid (St7 E.p r t tk) := hst
  have HMT : Hid (Mt d r) := hmt
  have ha : a < 8 := by have := hs.r; simp only at this; omega
  have hai : (a : Int) < 8 := by omega
  have hb : b < 8 := by have := hs.b7; simp only at this; omega
  have hbi : (b : Int) < 8 := by omega
  have hc : c < 8 := by have := hs.c7; simp only at this; omega
  have hci : (c : Int) < 8 := by omega
  have HO : Hid ((oneP (up1 r) (down1 t) ⟨2, a, b, c⟩).1 = up1 r ∧ (oneP (up1 r) (down1 t) ⟨2, a, b, c⟩).2 = (down1 t).put a (wrp ((down1 t).reg.getD b 0 + (down1 t).reg.getD c 0))) := by show _ ∧ _; constructor <;> simp [oneP, rg]
  clear h hI hst hmt hx hs hr hX
  go_enter Tryd.func51, Tryd.ntmps51
  go_wp2_with fail
  refine HSP.mono ?_
  rintro e w1 ⟨rfl, hw1, ht1, hF1⟩
  have hMid := Mid7.made (x := ⟨2, a, b, c⟩) hw1 ht1 hF1
  obtain ⟨i0, i1, i2, i3⟩ := HI.out w1 _ hw1
  have c2 := ht1.cellAt 2
  have c3 := ht1.cellAt 3
  have fz3 := ht1.frozen 3
  have hlt := ht1.lt
  simp [tkC] at c2 c3
  simp only at i0 i1 i2 i3 hMid
  have hltg : g < w1.heap.size := block_lt_of_cell i0
  clear HSP
  go_wp2_with fail
  go_region
  go_upto_region 4 with fail
  generalize hW2 : ((w1.setCell ⟨bt, 3, none⟩ (.int .i64 ((t.at_ : Int) + 1))).alloc (.cells #[.int .i64 2, .int .i64 a, .int .i64 b, .int .i64 c] 54)).drew = w2 at *
  generalize hBI : w1.heap.size = bi at *
  clear hW2 i0 i1 i2 i3 c2 c3 fz3 hlt hltg hw1 ht1 hF1 hBI
  obtain ⟨mw, mt, mf, mn, j0, j1, j2, j3⟩ := hMid
  simp only at j0 j1 j2 j3
  have mn2 : bt ≠ bi := fun e => mn e.symm
  have hE1 : Hid ((down1 t).e = en0) := HE.out
  have hlen : Hid ((down1 t).reg.length = 8) := HST.out.reg
  have hR32 : Hid (∀ x ∈ (down1 t).reg, wrp x = x) := HST.out.r32
  have cb := mt.reg hb
  have cc := mt.reg hc
  have ca := mt.reg ha
  have fa := mt.frozen (6 + a)
  have q := fun w => V1.add_any ((down1 t).reg.getD b 0) ((down1 t).reg.getD c 0) w
  rw [v_add (hR32.out _ (getD_mem (by rw [hlen.out]; omega) 0)) (hR32.out _ (getD_mem (by rw [hlen.out]; omega) 0))] at q
  obtain ⟨y, hy⟩ : ∃ y, wrp ((down1 t).reg.getD b 0 + (down1 t).reg.getD c 0) = y := ⟨_, rfl⟩
  have HY : Hid (wrp ((down1 t).reg.getD b 0 + (down1 t).reg.getD c 0) = y) := hy
  rw [hy] at q
  clear hy
  go_wp2_with fail
  go_region_law (go_simp; go_at_call 65; refine (q _).mono ?_; rintro e w3 ⟨rfl, rfl⟩)
  all_goals
    go_wp2_with fail
    exact bodyPost_end (v := .tuple #[]) (by simp [results, Tryd.results51, go_sem]) rfl (st_one (d' := { d with st := d.st + 1 }) HO ⟨.inl ⟨by show t.e.h = 0; rw [HE.out]; rfl, rfl, (by have h := mt.drew.setReg hlen.out ha y; rw [← HY.out] at h; rw [← HY.out]; exact h)⟩, mw.drew.setT mt.drew _ _, mf.drew.setT mt.lo _ _⟩ HMT.out.up rfl)
end Go.Proofs.YtpmapdialjdcbaaDoor
