/-
  Helpers: RxA6, RxA7, RxA8, RxA10.
-/
import Derived.Test.YtpmapdialjdcbaaDoorBun382075a39a16
namespace Go.Proofs.YtpmapdialjdcbaaDoor
open Go.RowKit
open C2 (In Pr SlF SlI InsAt still_of_below below_then)

set_option maxHeartbeats 2000000 in
set_option maxRecDepth 4000 in
theorem rone_6 {E : Ev7} {w : World} {rv : Value} {r : Rs} {t : Ts} {bt a b c : Nat} (hw : Rh E w rv r) (ht : Tr E w bt t) (hl : t.reg.length = 8) (hr : ∀ x ∈ t.reg, wrp x = x) (hh : t.has.length = 4) (hn : t.hand.length = 4) (ha : a < 8) (hb : b < 8) (hc : c < 8) :
    Calls Tryd.prog 36 #[.pointer (some ⟨E.bw, 0, none⟩), .pointer (some ⟨bt, 0, none⟩), .agg #[.int .i64 6, .int .i64 a, .int .i64 b, .int .i64 c]] w fun e w' => ROne E bt rv w (oneP r t ⟨6, a, b, c⟩) e w' := by
  have hM := Mr.made 6 a b c hw ht
  have HO : Hid (oneP r t ⟨6, a, b, c⟩ = (r, t.put a (lessI (t.reg.getD b 0) (t.reg.getD c 0)))) := by show _ = _; simp [oneP, rg]
  have HR : Hid (t.reg.length = 8 ∧ (∀ x ∈ t.reg, wrp x = x) ∧ t.has.length = 4 ∧ t.hand.length = 4) := ⟨hl, hr, hh, hn⟩
  clear hl hr hh hn hw ht
  go_enter Tryd.func36, Tryd.ntmps36
  go_upto_region 12 with fail
  generalize hW2 : w.alloc (.cells #[.int .i64 6, .int .i64 a, .int .i64 b, .int .i64 c] 54) = w2 at *
  generalize hBI : w.heap.size = bi at *
  clear hW2 hBI
  obtain ⟨mw, mt, mf, ml, mlw, mex, j0, j1, j2, j3⟩ := hM
  have mn : bi ≠ bt := by omega
  have mn2 : bt ≠ bi := by omega
  have hai : (a : Int) < 8 := by omega
  have hbi : (b : Int) < 8 := by omega
  have hci : (c : Int) < 8 := by omega
  have cb := mt.reg hb
  have cc := mt.reg hc
  have ca := mt.reg ha
  have fa := mt.frozen a
  have q := fun w => V1.refLess_any (t.reg.getD b 0) (t.reg.getD c 0) w
  rw [v_less (HR.out.2.1 _ (getD_mem (by rw [HR.out.1]; omega) 0)) (HR.out.2.1 _ (getD_mem (by rw [HR.out.1]; omega) 0))] at q
  obtain ⟨y, hy⟩ : ∃ y, lessI (t.reg.getD b 0) (t.reg.getD c 0) = y := ⟨_, rfl⟩
  rw [hy] at q HO
  clear hy
  go_wp2_with fail
  go_region_law (go_simp; go_at_call 57; refine (q _).mono ?_; rintro e w3 ⟨rfl, rfl⟩)
  all_goals
    go_wp2_with fail
    exact bodyPost_end (v := .tuple #[]) (by simp [results, Tryd.results36, go_sem]) rfl (by rw [HO.out]; exact ⟨rfl, mw.drew.setT mt.drew _ _, mt.drew.setReg HR.out.1 ha _, mf.drew.setT mt.lo _ _⟩)
end Go.Proofs.YtpmapdialjdcbaaDoor
namespace Go.Proofs.YtpmapdialjdcbaaDoor
open Go.RowKit
open C2 (In Pr SlF SlI InsAt still_of_below below_then)

set_option maxHeartbeats 2000000 in
set_option maxRecDepth 4000 in
theorem rone_7 {E : Ev7} {w : World} {rv : Value} {r : Rs} {t : Ts} {bt a : Nat} {b c : Int} (hw : Rh E w rv r) (ht : Tr E w bt t) (hl : t.reg.length = 8) (hr : ∀ x ∈ t.reg, wrp x = x) (hh : t.has.length = 4) (hn : t.hand.length = 4) :
    Calls Tryd.prog 36 #[.pointer (some ⟨E.bw, 0, none⟩), .pointer (some ⟨bt, 0, none⟩), .agg #[.int .i64 7, .int .i64 a, .int .i64 b, .int .i64 c]] w fun e w' => ROne E bt rv w (oneP r t ⟨7, a, b, c⟩) e w' := by
  have hM := Mr.made 7 a b c hw ht
  have HO : Hid (oneP r t ⟨7, a, b, c⟩ = (r, { t with at_ := a })) := by show _ = _; simp [oneP]
  have HR : Hid (t.reg.length = 8 ∧ (∀ x ∈ t.reg, wrp x = x) ∧ t.has.length = 4 ∧ t.hand.length = 4) := ⟨hl, hr, hh, hn⟩
  clear hl hr hh hn hw ht
  go_enter Tryd.func36, Tryd.ntmps36
  go_upto_region 19 with fail
  generalize hW2 : w.alloc (.cells #[.int .i64 7, .int .i64 a, .int .i64 b, .int .i64 c] 54) = w2 at *
  generalize hBI : w.heap.size = bi at *
  clear hW2 hBI
  obtain ⟨mw, mt, mf, ml, mlw, mex, j0, j1, j2, j3⟩ := hM
  have mn : bi ≠ bt := by omega
  have mn2 : bt ≠ bi := by omega
  have f21 := mt.frozen 21
  have c21 := mt.cellAt 21
  simp [trC] at c21
  go_wp2_with fail
  exact bodyPost_end (v := .tuple #[]) (by simp [results, Tryd.results36, go_sem]) rfl (by rw [HO.out]; exact ⟨rfl, mw.setT mt _ _, mt.setAt a, mf.setT mt.lo _ _⟩)
end Go.Proofs.YtpmapdialjdcbaaDoor
namespace Go.Proofs.YtpmapdialjdcbaaDoor
open Go.RowKit
open C2 (In Pr SlF SlI InsAt still_of_below below_then)

set_option maxHeartbeats 2000000 in
set_option maxRecDepth 4000 in
theorem rone_8 {E : Ev7} {w : World} {rv : Value} {r : Rs} {t : Ts} {bt a b : Nat} {c : Int} (hw : Rh E w rv r) (ht : Tr E w bt t) (hl : t.reg.length = 8) (hr : ∀ x ∈ t.reg, wrp x = x) (hh : t.has.length = 4) (hn : t.hand.length = 4) (ha : a < 8) :
    Calls Tryd.prog 36 #[.pointer (some ⟨E.bw, 0, none⟩), .pointer (some ⟨bt, 0, none⟩), .agg #[.int .i64 8, .int .i64 a, .int .i64 b, .int .i64 c]] w fun e w' => ROne E bt rv w (oneP r t ⟨8, a, b, c⟩) e w' := by
  have hM := Mr.made 8 a b c hw ht
  have HO : Hid (oneP r t ⟨8, a, b, c⟩ = (r, if t.reg.getD a 0 = 0 then { t with at_ := b } else t)) := by show _ = _; simp [oneP, rg]
  have HR : Hid (t.reg.length = 8 ∧ (∀ x ∈ t.reg, wrp x = x) ∧ t.has.length = 4 ∧ t.hand.length = 4) := ⟨hl, hr, hh, hn⟩
  clear hl hr hh hn hw ht
  go_enter Tryd.func36, Tryd.ntmps36
  go_upto_region 21 with fail
  generalize hW2 : w.alloc (.cells #[.int .i64 8, .int .i64 a, .int .i64 b, .int .i64 c] 54) = w2 at *
  generalize hBI : w.heap.size = bi at *
  clear hW2 hBI
  obtain ⟨mw, mt, mf, ml, mlw, mex, j0, j1, j2, j3⟩ := hM
  have mn : bi ≠ bt := by omega
  have mn2 : bt ≠ bi := by omega
  have hai : (a : Int) < 8 := by omega
  have f21 := mt.frozen 21
  have c21 := mt.cellAt 21
  simp [trC] at c21
  have ca := mt.reg ha
  generalize t.reg.getD a 0 = y at *
  by_cases hz : y = 0
  · subst hz
    rw [if_pos rfl] at HO
    go_wp2_with fail
    go_quiet (fail)
    go_wp2_with fail
    exact bodyPost_end (v := .tuple #[]) (by simp [results, Tryd.results36, go_sem]) rfl (by rw [HO.out]; exact ⟨rfl, (mw.drewN _).setT (mt.drewN _) _ _, (mt.drewN _).setAt b, (mf.drewN _).setT mt.lo _ _⟩)
  · rw [if_neg hz] at HO
    have hzb : (y == 0) = false := by simpa using hz
    go_wp2_with fail
    go_quiet (fail)
    go_wp2_with fail
    exact bodyPost_end (v := .tuple #[]) (by simp [results, Tryd.results36, go_sem]) rfl (by rw [HO.out]; exact ⟨rfl, mw.drewN _, mt.drewN _, mf.drewN _⟩)
end Go.Proofs.YtpmapdialjdcbaaDoor
namespace Go.Proofs.YtpmapdialjdcbaaDoor
open Go.RowKit
open C2 (In Pr SlF SlI InsAt still_of_below below_then)

set_option maxHeartbeats 2000000 in
set_option maxRecDepth 4000 in
theorem roth_10 {E : Ev7} {w : World} {rv : Value} {r : Rs} {t : Ts} {bt a b : Nat} {c : Int} (hw : Rh E w rv r) (ht : Tr E w bt t) (hl : t.reg.length = 8) (hr : ∀ x ∈ t.reg, wrp x = x) (hh : t.has.length = 4) (hn : t.hand.length = 4) (ha : a < 8) (hb : b < 4) :
    Calls Tryd.prog 59 #[.pointer (some ⟨E.bw, 0, none⟩), .pointer (some ⟨bt, 0, none⟩), .agg #[.int .i64 10, .int .i64 a, .int .i64 b, .int .i64 c]] w fun e w' => ROne E bt rv w (oneP r t ⟨10, a, b, c⟩) e w' := by
  have hM := Mr.made 10 a b c hw ht
  have HO : Hid (oneP r t ⟨10, a, b, c⟩ = (r, if t.has.getD b false = false then t.ends 7 else if (t.hand.getD b en0).h ≠ 1 then ({ t with has := t.has.set b false } : Ts).ends (t.hand.getD b en0).h else ({ t with has := t.has.set b false } : Ts).put a (t.hand.getD b en0).v)) := by show _ = _; simp [oneP]
  have HR : Hid (t.reg.length = 8 ∧ (∀ x ∈ t.reg, wrp x = x) ∧ t.has.length = 4 ∧ t.hand.length = 4) := ⟨hl, hr, hh, hn⟩
  clear hl hr hh hn hw ht
  go_enter Tryd.func59, Tryd.ntmps59
  go_upto_region 14 with fail
  generalize hW2 : w.alloc (.cells #[.int .i64 10, .int .i64 a, .int .i64 b, .int .i64 c] 54) = w2 at *
  generalize hBI : w.heap.size = bi at *
  clear hW2 hBI
  obtain ⟨mw, mt, mf, ml, mlw, mex, j0, j1, j2, j3⟩ := hM
  have mn : bi ≠ bt := by omega
  have mn2 : bt ≠ bi := by omega
  have hai : (a : Int) < 8 := by omega
  have hbi : (b : Int) < 4 := by omega
  have f25 := mt.frozen 25
  have c25 := mt.cellAt 25
  simp [trC] at c25
  have cb := mt.has hb
  have fb := mt.frozen (8 + b)
  cases hbb : t.has.getD b false with
  | false =>
    rw [hbb] at HO cb
    rw [if_pos rfl] at HO
    clear hbb
    go_wp2_with fail
    go_quiet (fail)
    go_wp2_with fail
    exact bodyPost_end (v := .tuple #[]) (by simp [results, Tryd.results59, go_sem]) rfl (by rw [HO.out]; exact ⟨rfl, (mw.drewN _).setT (mt.drewN _) _ _, (mt.drewN _).setEnds 7, (mf.drewN _).setT mt.lo _ _⟩)
  | true =>
    rw [hbb] at HO cb
    rw [if_neg (by decide)] at HO
    clear hbb
    go_wp2_with fail
    go_quiet (fail)
    go_wp2_with fail
    have mw4 := mw.drewN nq
    have mt4 := mt.drewN nq
    have mf4 := mf.drewN nq
    have k1 : (w2.drewN nq).cell? ⟨bi, 1, none⟩ = some (.int .i64 a) := j1
    have k2 : (w2.drewN nq).cell? ⟨bi, 2, none⟩ = some (.int .i64 b) := j2
    have cb4 : (w2.drewN nq).cell? ⟨bt, 8 + b, none⟩ = some (.bool true) := cb
    have fb4 := mt4.frozen (8 + b)
    generalize w2.drewN nq = w4 at *
    clear j0 j1 j2 j3 cb fb c25 f25 mw mt mf
    go_region
    all_goals
      have l1 : (w4.setCell ⟨bt, 8 + b, none⟩ (.bool false)).drew.cell? ⟨bi, 1, none⟩ = some (.int .i64 a) := (World.cell?_setCell_far _ _ _ _ (by simp only; omega)).trans k1
      have l2 : (w4.setCell ⟨bt, 8 + b, none⟩ (.bool false)).drew.cell? ⟨bi, 2, none⟩ = some (.int .i64 b) := (World.cell?_setCell_far _ _ _ _ (by simp only; omega)).trans k2
      have mt5 := (mt4.setHas HR.out.2.2.1 hb false).drew
      have mw5 := (mw4.setT mt4 (8 + b) (.bool false)).drew
      have mf5 := (mf4.setT mt4.lo (8 + b) (.bool false)).drew
      generalize hw5 : (w4.setCell ⟨bt, 8 + b, none⟩ (.bool false)).drew = w5 at *
      clear hw5
      clear k1 k2 cb4 fb4 mw4 mt4 mf4
      obtain ⟨ch, cv⟩ := mt5.hand hb
      simp only at ch cv
      have hl5 : ({ t with has := t.has.set b false } : Ts).reg.length = 8 := HR.out.1
      generalize t.hand.getD b en0 = x at *
      generalize ({ t with has := t.has.set b false } : Ts) = t5 at *
      clear nq
      by_cases h1 : x.h = 1
      · have e1 : (x.h != 1) = false := by simp [h1]
        rw [if_neg (by simp [h1])] at HO
        have ca5 := mt5.reg ha
        clear h1
        go_wp2_with fail
        go_quiet (fail)
        go_wp2_with fail
        have mw6 := mw5.drewN nq
        have mt6 := mt5.drewN nq
        have mf6 := mf5.drewN nq
        have m1 : (w5.drewN nq).cell? ⟨bi, 1, none⟩ = some (.int .i64 a) := l1
        have m2 : (w5.drewN nq).cell? ⟨bi, 2, none⟩ = some (.int .i64 b) := l2
        have ca6 : (w5.drewN nq).cell? ⟨bt, a, none⟩ = _ := ca5
        have cv6 : (w5.drewN nq).cell? ⟨bt, 12 + b * 2 + 1, none⟩ = _ := cv
        have fa6 := mt6.frozen a
        generalize w5.drewN nq = w6 at *
        clear l1 l2 ch cv ca5 mw5 mt5 mf5 e1
        go_region
        all_goals
          go_wp2_with fail
          exact bodyPost_end (v := .tuple #[]) (by simp [results, Tryd.results59, go_sem]) rfl (by rw [HO.out]; exact ⟨rfl, mw6.drew.setT mt6.drew _ _, mt6.drew.setReg hl5 ha _, mf6.drew.setT mt6.lo _ _⟩)
      · have e1 : (x.h != 1) = true := by simpa using h1
        rw [if_pos h1] at HO
        clear h1
        go_wp2_with fail
        go_quiet (fail)
        go_wp2_with fail
        have mw6 := mw5.drewN nq
        have mt6 := mt5.drewN nq
        have mf6 := mf5.drewN nq
        have m1 : (w5.drewN nq).cell? ⟨bi, 1, none⟩ = some (.int .i64 a) := l1
        have m2 : (w5.drewN nq).cell? ⟨bi, 2, none⟩ = some (.int .i64 b) := l2
        have ch6 : (w5.drewN nq).cell? ⟨bt, 12 + b * 2, none⟩ = _ := ch
        have f25 := mt6.frozen 25
        have c25 : (w5.drewN nq).cell? ⟨bt, 25, none⟩ = some (.int .i64 t5.e.h) := mt6.cellAt 25
        generalize w5.drewN nq = w6 at *
        clear l1 l2 ch cv mw5 mt5 mf5 e1
        go_region
        all_goals
          go_wp2_with fail
          exact bodyPost_end (v := .tuple #[]) (by simp [results, Tryd.results59, go_sem]) rfl (by rw [HO.out]; exact ⟨rfl, mw6.drew.setT mt6.drew _ _, mt6.drew.setEnds _, mf6.drew.setT mt6.lo _ _⟩)
set_option maxHeartbeats 2000000 in
set_option maxRecDepth 4000 in
theorem rone_10 {E : Ev7} {w : World} {rv : Value} {r : Rs} {t : Ts} {bt a b : Nat} {c : Int} (hw : Rh E w rv r) (ht : Tr E w bt t) (hl : t.reg.length = 8) (hr : ∀ x ∈ t.reg, wrp x = x) (hh : t.has.length = 4) (hn : t.hand.length = 4) (ha : a < 8) (hb : b < 4) :
    Calls Tryd.prog 36 #[.pointer (some ⟨E.bw, 0, none⟩), .pointer (some ⟨bt, 0, none⟩), .agg #[.int .i64 10, .int .i64 a, .int .i64 b, .int .i64 c]] w fun e w' => ROne E bt rv w (oneP r t ⟨10, a, b, c⟩) e w' := by
  have hM := Mr.made 10 a b c hw ht
  have HO0 : Hid (oneP r t ⟨10, a, b, c⟩ = oneP r t ⟨10, a, b, c⟩) := by show _ = _; rfl
  have HR : Hid (t.reg.length = 8 ∧ (∀ x ∈ t.reg, wrp x = x) ∧ t.has.length = 4 ∧ t.hand.length = 4) := ⟨hl, hr, hh, hn⟩
  clear hl hr hh hn hw ht
  go_enter Tryd.func36, Tryd.ntmps36
  go_upto_region 2 with fail
  generalize hW2 : w.alloc (.cells #[.int .i64 10, .int .i64 a, .int .i64 b, .int .i64 c] 54) = w2 at *
  generalize hBI : w.heap.size = bi at *
  clear hW2 hBI
  obtain ⟨mw, mt, mf, ml, mlw, mex, j0, j1, j2, j3⟩ := hM
  have mn : bi ≠ bt := by omega
  have mn2 : bt ≠ bi := by omega
  have HQ : Hid (∀ w, Rh E w rv r → Tr E w bt t → Calls Tryd.prog 59 #[.pointer (some ⟨E.bw, 0, none⟩), .pointer (some ⟨bt, 0, none⟩), .agg #[.int .i64 10, .int .i64 a, .int .i64 b, .int .i64 c]] w fun e w' => ROne E bt rv w (oneP r t ⟨10, a, b, c⟩) e w') := fun w h1 h2 => roth_10 h1 h2 HR.out.1 HR.out.2.1 HR.out.2.2.1 HR.out.2.2.2 ha hb
  go_wp2_with fail
  refine (HQ.out _ mw mt).mono ?_
  rintro e w3 ⟨rfl, hw3, ht3, hf3⟩
  go_wp2_with fail
  exact bodyPost_end (v := .tuple #[]) (by simp [results, Tryd.results36, go_sem]) rfl ⟨rfl, hw3, ht3, mf.trans hf3⟩
end Go.Proofs.YtpmapdialjdcbaaDoor
