/-
  Helpers: RxA2, RxA3, RxA4, RxA5.
-/
import Derived.Test.YtpmapdialjdcbaaDoorBun382075a39a16
namespace Go.Proofs.YtpmapdialjdcbaaDoor
open Go.RowKit
open C2 (In Pr SlF SlI InsAt still_of_below below_then)

set_option maxHeartbeats 2000000 in
set_option maxRecDepth 4000 in
theorem rone_2 {E : Ev7} {w : World} {rv : Value} {r : Rs} {t : Ts} {bt a b c : Nat} (hw : Rh E w rv r) (ht : Tr E w bt t) (hl : t.reg.length = 8) (hr : ∀ x ∈ t.reg, wrp x = x) (hh : t.has.length = 4) (hn : t.hand.length = 4) (ha : a < 8) (hb : b < 8) (hc : c < 8) :
    Calls Tryd.prog 36 #[.pointer (some ⟨E.bw, 0, none⟩), .pointer (some ⟨bt, 0, none⟩), .agg #[.int .i64 2, .int .i64 a, .int .i64 b, .int .i64 c]] w fun e w' => ROne E bt rv w (oneP r t ⟨2, a, b, c⟩) e w' := by
  have hM := Mr.made 2 a b c hw ht
  have HO : Hid (oneP r t ⟨2, a, b, c⟩ = (r, t.put a (wrp (t.reg.getD b 0 + t.reg.getD c 0)))) := by show _ = _; simp [oneP, rg]
  have HR : Hid (t.reg.length = 8 ∧ (∀ x ∈ t.reg, wrp x = x) ∧ t.has.length = 4 ∧ t.hand.length = 4) := ⟨hl, hr, hh, hn⟩
  clear hl hr hh hn hw ht
  go_enter Tryd.func36, Tryd.ntmps36
  go_upto_region 6 with fail
  generalize hW2 : w.alloc (.cells #[.int .i64 2, .int .i64 a, .int .i64 b, .int .i64 c] 54) = w2 at *
  generalize hBI : w.heap.size = bi at *
  clear hW2 hBI
  obtain ⟨mw, mt, mf, ml, mlw, mex, j0, j1, j2, j3⟩ := hM
  have mn : bi ≠ bt := by omega
  have mn2 : bt ≠ bi := by omega
  have hai : (a : Int) < 8 := by omega
  have hbi : (b : Int) < 8 := by omega
  have hci : (c : Int) < 8 := by omega
  have cb := mt.reg hb
  have cc := mt.reg hc
  have ca := mt.reg ha
  have fa := mt.frozen a
  have q := fun w => V1.refAdd_any (t.reg.getD b 0) (t.reg.getD c 0) w
  rw [v_add (HR.out.2.1 _ (getD_mem (by rw [HR.out.1]; omega) 0)) (HR.out.2.1 _ (getD_mem (by rw [HR.out.1]; omega) 0))] at q
  obtain ⟨y, hy⟩ : ∃ y, wrp (t.reg.getD b 0 + t.reg.getD c 0) = y := ⟨_, rfl⟩
  rw [hy] at q HO
  clear hy
  go_wp2_with fail
  go_region_law (go_simp; go_at_call 54; refine (q _).mono ?_; rintro e w3 ⟨rfl, rfl⟩)
  all_goals
    go_wp2_with fail
    exact bodyPost_end (v := .tuple #[]) (by simp [results, Tryd.results36, go_sem]) rfl (by rw [HO.out]; exact ⟨rfl, mw.drew.setT mt.drew _ _, mt.drew.setReg HR.out.1 ha _, mf.drew.setT mt.lo _ _⟩)
end Go.Proofs.YtpmapdialjdcbaaDoor
namespace Go.Proofs.YtpmapdialjdcbaaDoor
open Go.RowKit
open C2 (In Pr SlF SlI InsAt still_of_below below_then)

set_option maxHeartbeats 2000000 in
set_option maxRecDepth 4000 in
theorem rone_3 {E : Ev7} {w : World} {rv : Value} {r : Rs} {t : Ts} {bt a b c : Nat} (hw : Rh E w rv r) (ht : Tr E w bt t) (hl : t.reg.length = 8) (hr : ∀ x ∈ t.reg, wrp x = x) (hh : t.has.length = 4) (hn : t.hand.length = 4) (ha : a < 8) (hb : b < 8) (hc : c < 8) :
    Calls Tryd.prog 36 #[.pointer (some ⟨E.bw, 0, none⟩), .pointer (some ⟨bt, 0, none⟩), .agg #[.int .i64 3, .int .i64 a, .int .i64 b, .int .i64 c]] w fun e w' => ROne E bt rv w (oneP r t ⟨3, a, b, c⟩) e w' := by
  have hM := Mr.made 3 a b c hw ht
  have HO : Hid (oneP r t ⟨3, a, b, c⟩ = (r, t.put a (wrp (t.reg.getD b 0 - t.reg.getD c 0)))) := by show _ = _; simp [oneP, rg]
  have HR : Hid (t.reg.length = 8 ∧ (∀ x ∈ t.reg, wrp x = x) ∧ t.has.length = 4 ∧ t.hand.length = 4) := ⟨hl, hr, hh, hn⟩
  clear hl hr hh hn hw ht
  go_enter Tryd.func36, Tryd.ntmps36
  go_upto_region 8 with fail
  generalize hW2 : w.alloc (.cells #[.int .i64 3, .int .i64 a, .int .i64 b, .int .i64 c] 54) = w2 at *
  generalize hBI : w.heap.size = bi at *
  clear hW2 hBI
  obtain ⟨mw, mt, mf, ml, mlw, mex, j0, j1, j2, j3⟩ := hM
  have mn : bi ≠ bt := by omega
  have mn2 : bt ≠ bi := by omega
  have hai : (a : Int) < 8 := by omega
  have hbi : (b : Int) < 8 := by omega
  have hci : (c : Int) < 8 := by omega
  have cb := mt.reg hb
  have cc := mt.reg hc
  have ca := mt.reg ha
  have fa := mt.frozen a
  have q := fun w => V1.refSub_any (t.reg.getD b 0) (t.reg.getD c 0) w
  rw [v_sub (HR.out.2.1 _ (getD_mem (by rw [HR.out.1]; omega) 0)) (HR.out.2.1 _ (getD_mem (by rw [HR.out.1]; omega) 0))] at q
  obtain ⟨y, hy⟩ : ∃ y, wrp (t.reg.getD b 0 - t.reg.getD c 0) = y := ⟨_, rfl⟩
  rw [hy] at q HO
  clear hy
  go_wp2_with fail
  go_region_law (go_simp; go_at_call 55; refine (q _).mono ?_; rintro e w3 ⟨rfl, rfl⟩)
  all_goals
    go_wp2_with fail
    exact bodyPost_end (v := .tuple #[]) (by simp [results, Tryd.results36, go_sem]) rfl (by rw [HO.out]; exact ⟨rfl, mw.drew.setT mt.drew _ _, mt.drew.setReg HR.out.1 ha _, mf.drew.setT mt.lo _ _⟩)
end Go.Proofs.YtpmapdialjdcbaaDoor
namespace Go.Proofs.YtpmapdialjdcbaaDoor
open Go.RowKit
open C2 (In Pr SlF SlI InsAt still_of_below below_then)

set_option maxHeartbeats 2000000 in
set_option maxRecDepth 4000 in
theorem rone_4 {E : Ev7} {w : World} {rv : Value} {r : Rs} {t : Ts} {bt a b c : Nat} (hw : Rh E w rv r) (ht : Tr E w bt t) (hl : t.reg.length = 8) (hr : ∀ x ∈ t.reg, wrp x = x) (hh : t.has.length = 4) (hn : t.hand.length = 4) (ha : a < 8) (hb : b < 8) (hc : c < 8) :
    Calls Tryd.prog 36 #[.pointer (some ⟨E.bw, 0, none⟩), .pointer (some ⟨bt, 0, none⟩), .agg #[.int .i64 4, .int .i64 a, .int .i64 b, .int .i64 c]] w fun e w' => ROne E bt rv w (oneP r t ⟨4, a, b, c⟩) e w' := by
  have hM := Mr.made 4 a b c hw ht
  have HO : Hid (oneP r t ⟨4, a, b, c⟩ = (r, t.put a (wrp (t.reg.getD b 0 * t.reg.getD c 0)))) := by show _ = _; simp [oneP, rg]
  have HR : Hid (t.reg.length = 8 ∧ (∀ x ∈ t.reg, wrp x = x) ∧ t.has.length = 4 ∧ t.hand.length = 4) := ⟨hl, hr, hh, hn⟩
  clear hl hr hh hn hw ht
  go_enter Tryd.func36, Tryd.ntmps36
  go_upto_region 10 with fail
  generalize hW2 : w.alloc (.cells #[.int .i64 4, .int .i64 a, .int .i64 b, .int .i64 c] 54) = w2 at *
  generalize hBI : w.heap.size = bi at *
  clear hW2 hBI
  obtain ⟨mw, mt, mf, ml, mlw, mex, j0, j1, j2, j3⟩ := hM
  have mn : bi ≠ bt := by omega
  have mn2 : bt ≠ bi := by omega
  have hai : (a : Int) < 8 := by omega
  have hbi : (b : Int) < 8 := by omega
  have hci : (c : Int) < 8 := by omega
  have cb := mt.reg hb
  have cc := mt.reg hc
  have ca := mt.reg ha
  have fa := mt.frozen a
  have q := fun w => V1.refMul_any (t.reg.getD b 0) (t.reg.getD c 0) w
  rw [v_mul (HR.out.2.1 _ (getD_mem (by rw [HR.out.1]; omega) 0)) (HR.out.2.1 _ (getD_mem (by rw [HR.out.1]; omega) 0))] at q
  obtain ⟨y, hy⟩ : ∃ y, wrp (t.reg.getD b 0 * t.reg.getD c 0) = y := ⟨_, rfl⟩
  rw [hy] at q HO
  clear hy
  go_wp2_with fail
  go_region_law (go_simp; go_at_call 56; refine (q _).mono ?_; rintro e w3 ⟨rfl, rfl⟩)
  all_goals
    go_wp2_with fail
    exact bodyPost_end (v := .tuple #[]) (by simp [results, Tryd.results36, go_sem]) rfl (by rw [HO.out]; exact ⟨rfl, mw.drew.setT mt.drew _ _, mt.drew.setReg HR.out.1 ha _, mf.drew.setT mt.lo _ _⟩)
end Go.Proofs.YtpmapdialjdcbaaDoor
namespace Go.Proofs.YtpmapdialjdcbaaDoor
open Go.RowKit
open C2 (In Pr SlF SlI InsAt still_of_below below_then)

set_option maxHeartbeats 2000000 in
set_option maxRecDepth 4000 in
theorem rone_5 {E : Ev7} {w : World} {rv : Value} {r : Rs} {t : Ts} {bt a b c : Nat} (hw : Rh E w rv r) (ht : Tr E w bt t) (hl : t.reg.length = 8) (hr : ∀ x ∈ t.reg, wrp x = x) (hh : t.has.length = 4) (hn : t.hand.length = 4) (ha : a < 8) (hb : b < 8) (hc : c < 8) :
    Calls Tryd.prog 36 #[.pointer (some ⟨E.bw, 0, none⟩), .pointer (some ⟨bt, 0, none⟩), .agg #[.int .i64 5, .int .i64 a, .int .i64 b, .int .i64 c]] w fun e w' => ROne E bt rv w (oneP r t ⟨5, a, b, c⟩) e w' := by
  have hM := Mr.made 5 a b c hw ht
  have HO : Hid (oneP r t ⟨5, a, b, c⟩ = (if t.reg.getD c 0 = 0 then (r, t.ends 2) else (r, t.put a (wrp ((t.reg.getD b 0).tdiv (t.reg.getD c 0)))))) := by show _ = _; simp [oneP, rg]
  have HR : Hid (t.reg.length = 8 ∧ (∀ x ∈ t.reg, wrp x = x) ∧ t.has.length = 4 ∧ t.hand.length = 4) := ⟨hl, hr, hh, hn⟩
  clear hl hr hh hn hw ht
  go_enter Tryd.func36, Tryd.ntmps36
  go_upto_region 14 with fail
  generalize hW2 : w.alloc (.cells #[.int .i64 5, .int .i64 a, .int .i64 b, .int .i64 c] 54) = w2 at *
  generalize hBI : w.heap.size = bi at *
  clear hW2 hBI
  obtain ⟨mw, mt, mf, ml, mlw, mex, j0, j1, j2, j3⟩ := hM
  have mn : bi ≠ bt := by omega
  have mn2 : bt ≠ bi := by omega
  have hai : (a : Int) < 8 := by omega
  have hbi : (b : Int) < 8 := by omega
  have hci : (c : Int) < 8 := by omega
  have cb := mt.reg hb
  have cc := mt.reg hc
  have ca := mt.reg ha
  have fa := mt.frozen a
  have f25 := mt.frozen 25
  have c25 := mt.cellAt 25
  simp [trC] at c25
  have q := fun w => V1.refDiv_any (t.reg.getD b 0) (t.reg.getD c 0) w
  have hcm := HR.out.2.1 _ (getD_mem (l := t.reg) (i := c) (by rw [HR.out.1]; omega) 0)
  by_cases hz : t.reg.getD c 0 = 0
  · rw [if_pos hz] at HO
    rw [v_ok hcm, show (!(t.reg.getD c 0 == 0)) = false by rw [hz]; rfl] at q
    generalize V1.vQuo (t.reg.getD b 0) (t.reg.getD c 0) = y at *
    clear hz hcm
    go_wp2_with fail
    go_quiet ((go_at_call 58; exact Calls.quiet_of_same (q _)))
    go_wp2_with fail
    exact bodyPost_end (v := .tuple #[]) (by simp [results, Tryd.results36, go_sem]) rfl (by rw [HO.out]; exact ⟨rfl, (mw.drewN _).setT (mt.drewN _) _ _, (mt.drewN _).setEnds 2, (mf.drewN _).setT mt.lo _ _⟩)
  · rw [if_neg hz] at HO
    rw [v_ok hcm, v_quo (HR.out.2.1 _ (getD_mem (by rw [HR.out.1]; omega) 0)) hcm, if_neg hz, show (!(t.reg.getD c 0 == 0)) = true by simp only [Bool.not_eq_true', beq_eq_false_iff_ne]; exact hz] at q
    generalize wrp ((t.reg.getD b 0).tdiv (t.reg.getD c 0)) = y at *
    clear hz hcm
    go_wp2_with fail
    go_quiet ((go_at_call 58; exact Calls.quiet_of_same (q _)))
    go_wp2_with fail
    have mw4 := mw.drewN nq
    have mt4 := mt.drewN nq
    have mf4 := mf.drewN nq
    have k1 : (w2.drewN nq).cell? ⟨bi, 1, none⟩ = some (.int .i64 a) := j1
    have ca4 := mt4.reg ha
    have fa4 := mt4.frozen a
    generalize w2.drewN nq = w4 at *
    clear j0 j1 j2 j3 ca cb cc fa f25 c25 mw mt mf q
    go_region
    all_goals
      go_wp2_with fail
      exact bodyPost_end (v := .tuple #[]) (by simp [results, Tryd.results36, go_sem]) rfl (by rw [HO.out]; exact ⟨rfl, mw4.drew.setT mt4.drew _ _, mt4.drew.setReg HR.out.1 ha _, mf4.drew.setT mt4.lo _ _⟩)
end Go.Proofs.YtpmapdialjdcbaaDoor
