/-
  Helpers: RxF, RxG, RxH, RxI.
-/
import Derived.Test.YtpmapdialjdcbaaDoorBun462773cb2143
import Derived.Test.YtpmapdialjdcbaaDoorBuncce5d02cb241
import Derived.Test.YtpmapdialjdcbaaDoorBunc9d98ac31031
namespace Go.Proofs.YtpmapdialjdcbaaDoor
open Go.RowKit
open C2 (In Pr SlF SlI InsAt still_of_below below_then below_alloc Still)
open K6 (Ky)

theorem Tr.c23 {E : Ev7} {w : World} {bt : Nat} {t : Ts} (h : Tr E w bt t) : w.cell? ⟨bt, 23, none⟩ = some (.int .i64 t.forks) := h.cellAt 23
theorem Tr.c24 {E : Ev7} {w : World} {bt : Nat} {t : Ts} (h : Tr E w bt t) : w.cell? ⟨bt, 24, none⟩ = some (.int .i64 t.key) := h.cellAt 24
theorem Tr.c25 {E : Ev7} {w : World} {bt : Nat} {t : Ts} (h : Tr E w bt t) : w.cell? ⟨bt, 25, none⟩ = some (.int .i64 t.e.h) := h.cellAt 25
theorem Rh.c2 {E : Ev7} {w : World} {rv : Value} {r : Rs} (h : Rh E w rv r) : w.cell? ⟨E.bw, 2, none⟩ = some (.int .i64 E.p.depth) := h.cellsAt 2
theorem Rh.c8 {E : Ev7} {w : World} {rv : Value} {r : Rs} (h : Rh E w rv r) : w.cell? ⟨E.bw, 8, none⟩ = some (.int .i64 r.forks) := h.cellsAt 8
/-- a fork, plainly -/
def kidC (E : Ev7) (r : Rs) (t : Ts) (b : Nat) (v : Int) : Rs × Ts := ev7 E.p E.M (forkR (up1 r)) (ts0 b v (kidK chY t) E.p.fuel.toNat)
def fkB (E : Ev7) (r : Rs) (t : Ts) (a b : Nat) (v : Int) : Rs × Ts :=
  if E.p.depth ≤ depK t.key then (up1 r, (down1 t).ends 6) else if 1000 ≤ t.forks then (up1 r, (down1 t).ends 9) else
  (told (kidC E r t b v).1 b v (kidK chY t) (kidC E r t b v).2.e, forkT (down1 t) a (kidC E r t b v).2.e)
/-- a task's end in a box of its own, behind a fork -/
structure At8 (E : Ev7) (w : World) (bt bi a : Nat) (r : Rs) (t : Ts) (en : En) (b : Nat) (wx : World) : Prop where
  rh : ∃ rv', Rh E wx rv' r
  tr : Tr E wx bt t
  fr : FrR E (some bt) w wx
  box : wx.heap[b]? = some (.cells #[.int .i64 en.h, .int .i64 en.v] 29 (0, 0))
  ne : b ≠ bt
  ins : wx.cell? ⟨bi, 1, none⟩ = some (.int .i64 a)
theorem At8.made {E : Ev7} {w w7 : World} {bt bi a b : Nat} {rv : Value} {r : Rs} {t : Ts} (en : En) (hw : Rh E w7 rv r) (ht : Tr E w7 bt t) (hF : FrR E (some bt) w w7) (g8 : w7.heap[b]? = some (.cells #[.int .i64 0, .int .i64 0] 29 (0, 0))) (hb : b ≠ bt) (hlo : w.heap.size ≤ b) (hl0 : E.W0.heap.size ≤ b) (hi : w7.cell? ⟨bi, 1, none⟩ = some (.int .i64 a)) (hbi : b ≠ bi) : At8 E w bt bi a r t en b ((w7.setCell ⟨b, 0, none⟩ (.int .i64 en.h)).setCell ⟨b, 1, none⟩ (.int .i64 en.v)) := by
  have g9 : (w7.setCell ⟨b, 0, none⟩ (.int .i64 en.h)).heap[b]? = some (.cells #[.int .i64 en.h, .int .i64 0] 29 (0, 0)) := by rw [heap_setCell_same _ _ _ _ _ _ g8]; rfl
  refine ⟨⟨rv, (hw.setOther g8 (by decide) (by decide) (by decide) (by decide) hl0 0 _).setOther g9 (by decide) (by decide) (by decide) (by decide) hl0 1 _⟩, (ht.setNe hb.symm _ _).setNe hb.symm _ _, (hF.setNew hlo hl0 _ _).setNew hlo hl0 _ _, ?_, hb, ?_⟩
  · rw [heap_setCell_same _ _ _ _ _ _ g9]
    rfl
  · exact (World.cell?_setCell_far _ _ _ _ (by exact hbi)).trans ((World.cell?_setCell_far _ _ _ _ (by exact hbi)).trans hi)
theorem At8.drew {E : Ev7} {w wx : World} {bt bi a b : Nat} {r : Rs} {t : Ts} {en : En} (h : At8 E w bt bi a r t en b wx) : At8 E w bt bi a r t en b wx.drew := ⟨h.rh.imp fun _ k => k.drew, h.tr.drew, h.fr.drew, h.box, h.ne, h.ins⟩
def RFk (E : Ev7) (bt : Nat) (w : World) (q : Rs × Ts) (e : Ending) (w' : World) : Prop := ∃ rv', ROne E bt rv' w q e w'
set_option maxHeartbeats 2000000 in
set_option maxRecDepth 4000 in
theorem roth_9 {E : Ev7} (hp : Ok7 E.p) {n : Nat} (ih : RTaskOk E n) (hM : E.M ≤ 20000) {w : World} {rv : Value} {r : Rs} {t : Ts} {bt a b c : Nat} {tk : Ky} (hw : Rh E w rv (up1 r)) (ht : Tr E w bt (down1 t)) (h : St7 E.p r t tk) (hg : goesB E.M r t) (hl1 : r.ran.length ≤ r.steps) (hl2 : r.forks ≤ r.steps) (hn : E.M - (r.steps + 1) ≤ n)
    (h9 : (ins7 E.p t).o = 9) (hb : (ins7 E.p t).b = b) (hc : (ins7 E.p t).c = c) (ha4 : a < 4) (hc8 : c < 8) :
    Calls Tryd.prog 59 #[.pointer (some ⟨E.bw, 0, none⟩), .pointer (some ⟨bt, 0, none⟩), .agg #[.int .i64 9, .int .i64 a, .int .i64 b, .int .i64 c]] w fun e w' => RFk E bt w (fkB E r t a b (rg t c)) e w' := by
  have hM' := Mr.made 9 a b c hw ht
  have hdk : depK t.key = tk.dep := by unfold depK; rw [h.key, K6.of_key h.ok]
  have hkey : (down1 t).key = tk.key := h.key
  have hfk : (down1 t).forks = t.forks := rfl
  have hE1 : (down1 t).e = en0 := (en_zero h.tok hg.1 : t.e = en0)
  have h1000 := h.fk
  have hsM := hg.2.2.2
  have HD : Hid (∀ w, Calls Tryd.prog 78 #[.int .i64 tk.key] w fun e w' => e = .returned (.int .i64 tk.dep) ∧ w' = w) := fun w => by
    have q := K6.RDepth_any tk.key w
    rw [K6.dp_key h.ok] at q
    exact q
  have HS : Hid (St7 E.p r t tk ∧ goesB E.M r t ∧ (down1 t).e = en0 ∧ (ins7 E.p t).b = b ∧ (ins7 E.p t).c = c ∧ (ins7 E.p t).o = 9) := ⟨h, hg, hE1, hb, hc, h9⟩
  have c23 := hM'.tr.cellAt 23
  have c24 := hM'.tr.cellAt 24
  have c25 := hM'.tr.cellAt 25
  have f25 := hM'.tr.frozen 25
  have d2 := hM'.rh.cellsAt 2
  simp only [trC, rhC, List.getElem?_toArray, List.getElem?_cons_succ, List.getElem?_cons_zero] at c23 c24 c25 d2
  rw [hfk] at c23
  rw [hkey] at c24
  rw [hE1] at c25
  change _ = some (Value.int .i64 0) at c25
  clear h hg hb hc h9 hw ht
  go_enter Tryd.func59, Tryd.ntmps59
  go_upto_region 3 with fail
  generalize hW2 : w.alloc (.cells #[.int .i64 9, .int .i64 a, .int .i64 b, .int .i64 c] 54) = w2 at *
  generalize hBI : w.heap.size = bi at *
  clear hW2 hBI
  obtain ⟨mw, mt, mf, ml, mlw, mex, j0, j1, j2, j3⟩ := hM'
  have mn : bi ≠ bt := by omega
  have mn2 : bt ≠ bi := by omega
  have hbw : E.bw ≠ bt := fun e => mt.notEx mw (.inl e.symm)
  have hbw2 : bt ≠ E.bw := fun e => hbw e.symm
  by_cases hd : E.p.depth ≤ depK t.key
  · have HO : Hid (fkB E r t a b (rg t c) = (up1 r, (down1 t).ends 6)) := by show _ = _; unfold fkB; rw [if_pos hd]
    rw [hdk] at hd
    have hdd : decide (E.p.depth ≤ (tk.dep : Int)) = true := by simpa using hd
    by_cases hf : 1000 ≤ t.forks
    · have hfd : decide ((1000 : Int) ≤ (t.forks : Int)) = true := by simp; omega
      clear hd hf
      go_upto_region 5 with fail
      have mt3 := mt.setEnds 9
      have mw3 := mw.setT mt 25 (.int .i64 9)
      have mf3 := mf.setT mt.lo 25 (.int .i64 9)
      generalize w2.setCell ⟨bt, 25, none⟩ (.int .i64 9) = w3 at *
      clear c23 c24 c25 f25 d2 mw mt mf j0 j1 j2 j3
      have c24 : w3.cell? ⟨bt, 24, none⟩ = some (.int .i64 tk.key) := by rw [← hkey]; exact mt3.c24
      have c25 : w3.cell? ⟨bt, 25, none⟩ = some (.int .i64 9) := mt3.c25
      have f25 := mt3.frozen 25
      have d2 := mw3.c2
      go_wp2_with fail
      go_quiet ((go_at_call 78; exact Calls.quiet_of_same (HD.out _)))
      go_wp2_with fail
      exact bodyPost_end (v := .tuple #[]) (by simp [results, Tryd.results59, go_sem]) rfl (by rw [HO.out]; exact ⟨rv, rfl, (mw3.drewN _).setT (mt3.drewN _) _ _, (mt3.drewN _).setEnds 6, (mf3.drewN _).setT mt3.lo _ _⟩)
    · have hfd : decide ((1000 : Int) ≤ (t.forks : Int)) = false := by simp; omega
      clear hd hf
      go_upto_region 5 with fail
      clear c23 j0 j1 j2 j3
      go_wp2_with fail
      go_quiet ((go_at_call 78; exact Calls.quiet_of_same (HD.out _)))
      go_wp2_with fail
      exact bodyPost_end (v := .tuple #[]) (by simp [results, Tryd.results59, go_sem]) rfl (by rw [HO.out]; exact ⟨rv, rfl, (mw.drewN _).setT (mt.drewN _) _ _, (mt.drewN _).setEnds 6, (mf.drewN _).setT mt.lo _ _⟩)
  · have hd2 := hd
    rw [hdk] at hd
    have hdd : decide (E.p.depth ≤ (tk.dep : Int)) = false := by simpa using hd
    by_cases hf : 1000 ≤ t.forks
    · have HO : Hid (fkB E r t a b (rg t c) = (up1 r, (down1 t).ends 9)) := by show _ = _; unfold fkB; rw [if_neg hd2, if_pos hf]
      have hfd : decide ((1000 : Int) ≤ (t.forks : Int)) = true := by simp; omega
      clear hd hf hd2
      go_upto_region 5 with fail
      have mt3 := mt.setEnds 9
      have mw3 := mw.setT mt 25 (.int .i64 9)
      have mf3 := mf.setT mt.lo 25 (.int .i64 9)
      generalize w2.setCell ⟨bt, 25, none⟩ (.int .i64 9) = w3 at *
      clear c23 c24 c25 f25 d2 mw mt mf j0 j1 j2 j3
      have c24 : w3.cell? ⟨bt, 24, none⟩ = some (.int .i64 tk.key) := by rw [← hkey]; exact mt3.c24
      have c25 : w3.cell? ⟨bt, 25, none⟩ = some (.int .i64 9) := mt3.c25
      have f25 := mt3.frozen 25
      have d2 := mw3.c2
      go_wp2_with fail
      go_quiet ((go_at_call 78; exact Calls.quiet_of_same (HD.out _)))
      go_wp2_with fail
      exact bodyPost_end (v := .tuple #[]) (by simp [results, Tryd.results59, go_sem]) rfl (by rw [HO.out]; exact ⟨rv, rfl, mw3.drewN _, mt3.drewN _, mf3.drewN _⟩)
    · have HO : Hid (fkB E r t a b (rg t c) = (told (kidC E r t b (rg t c)).1 b (rg t c) (kidK chY t) (kidC E r t b (rg t c)).2.e, forkT (down1 t) a (kidC E r t b (rg t c)).2.e)) := by show _ = _; unfold fkB; rw [if_neg hd2, if_neg hf]
      have hfd : decide ((1000 : Int) ≤ (t.forks : Int)) = false := by simp; omega
      have HF : Hid (¬ E.p.depth ≤ depK t.key ∧ ¬ 1000 ≤ t.forks) := ⟨hd2, hf⟩
      clear hd hd2
      go_upto_region 5 with fail
      clear c23
      go_wp2_with fail
      go_quiet ((go_at_call 78; exact Calls.quiet_of_same (HD.out _)))
      go_upto_region 8 with fail
      have mw3 := mw.drewN nq
      have mt3 := mt.drewN nq
      have mf3 := mf.drewN nq
      have i1 : (w2.drewN nq).cell? ⟨bi, 1, none⟩ = some (.int .i64 a) := j1
      have i2 : (w2.drewN nq).cell? ⟨bi, 2, none⟩ = some (.int .i64 b) := j2
      have i3 : (w2.drewN nq).cell? ⟨bi, 3, none⟩ = some (.int .i64 c) := j3
      generalize w2.drewN nq = w3 at *
      clear j0 j1 j2 j3 c24 c25 f25 d2 mw mt mf nq
      have c23 : w3.cell? ⟨bt, 23, none⟩ = some (.int .i64 t.forks) := mt3.c23
      have c8 : w3.cell? ⟨E.bw, 8, none⟩ = some (.int .i64 r.forks) := mw3.c8
      have f23 := mt3.frozen 23
      have f8 := mw3.frozen 8
      have hfi : (t.forks : Int) ≤ 1000 := by omega
      have hki : (r.forks : Int) ≤ 20000 := by omega
      have mt4 := mt3.setForks (t.forks + 1)
      have mw4 := mw3.setT mt3 23 (.int .i64 ((t.forks + 1 : Nat) : Int))
      have mf4 := mf3.setT mt3.lo 23 (.int .i64 ((t.forks + 1 : Nat) : Int))
      have mt5 := mt4.setEx mw4 (.inl rfl) 8 (.int .i64 ((r.forks + 1 : Nat) : Int))
      have mw5 := mw4.setFk (r.forks + 1)
      have mf5 := mf4.setEx (.inl rfl) mw4.lo 8 (.int .i64 ((r.forks + 1 : Nat) : Int))
      have k1 := (World.cell?_setCell_far _ ⟨E.bw, 8, none⟩ ⟨bi, 1, none⟩ (.int .i64 ((r.forks + 1 : Nat) : Int)) (by simp only; omega)).trans ((World.cell?_setCell_far w3 ⟨bt, 23, none⟩ ⟨bi, 1, none⟩ (.int .i64 ((t.forks + 1 : Nat) : Int)) (by simp only; omega)).trans i1)
      have k2 := (World.cell?_setCell_far _ ⟨E.bw, 8, none⟩ ⟨bi, 2, none⟩ (.int .i64 ((r.forks + 1 : Nat) : Int)) (by simp only; omega)).trans ((World.cell?_setCell_far w3 ⟨bt, 23, none⟩ ⟨bi, 2, none⟩ (.int .i64 ((t.forks + 1 : Nat) : Int)) (by simp only; omega)).trans i2)
      have k3 := (World.cell?_setCell_far _ ⟨E.bw, 8, none⟩ ⟨bi, 3, none⟩ (.int .i64 ((r.forks + 1 : Nat) : Int)) (by simp only; omega)).trans ((World.cell?_setCell_far w3 ⟨bt, 23, none⟩ ⟨bi, 3, none⟩ (.int .i64 ((t.forks + 1 : Nat) : Int)) (by simp only; omega)).trans i3)
      rw [show ((r.forks + 1 : Nat) : Int) = (r.forks : Int) + 1 by omega, show ((t.forks + 1 : Nat) : Int) = (t.forks : Int) + 1 by omega] at mt5 mw5 mf5 k1 k2 k3
      have HK : Hid (∀ w, Calls Tryd.prog 79 #[.int .i64 tk.key, .int .i64 ((t.forks : Int) + 1)] w fun e w' => e = .returned (.tuple #[.int .i64 (kidK chY t), .bool true]) ∧ w' = w) := fun w => by
        have q := K6.RChild_any tk.key ((t.forks : Int) + 1) w
        obtain ⟨hS, hG, -⟩ := HS.out
        have hok := hS.ok
        have hdp := hp.d5
        have hd5 : tk.dep < 5 := by have := HF.out.1; omega
        have e1 : K6.chO tk.key (t.forks + 1) = true := by rw [K6.chO_key hok]; simp; omega
        have e2 : K6.chK tk.key (t.forks + 1) = kidK chY t := by
          rw [K6.chK_key hok (by omega) (by omega) (by omega)]
          unfold kidK chY
          rw [hS.key, K6.of_key hok]
        rw [e1, e2] at q
        exact q
      have HT : Hid (∀ W, Rh E W rv (forkR (up1 r)) → Tr E W bt { down1 t with forks := t.forks + 1 } → Calls Tryd.prog 26 #[.pointer (some ⟨E.bw, 0, none⟩), .int .i64 b, .int .i64 (rg t c), .int .i64 (kidK chY t)] W fun e w' => ∃ rv', e = .returned (endV (kidC E r t b (rg t c)).2.e) ∧ Rh E w' rv' (told (kidC E r t b (rg t c)).1 b (rg t c) (kidK chY t) (kidC E r t b (rg t c)).2.e) ∧ Tr E w' bt { down1 t with forks := t.forks + 1 } ∧ FrR E none W w') := fun W h1 h2 => by
        obtain ⟨hS, hG, -, hb, hc, h9⟩ := HS.out
        have hno2 : ¬ E.p.depth ≤ depK t.key := by have := HF.out.1; omega
        obtain ⟨kk, q1, -, -, q3, q4, q5, -, -, -, -, q6, q7⟩ := kid_key hp hS hno2 HF.out.2
        have hkid := kid_st hp hS hG.1 h9 q1 q3 q4 q6 q7
        have e3 : chY t.key (t.forks + 1) = kk.key := q3
        unfold kidT at hkid
        rw [hb, hc, e3, Int.toNat_natCast] at hkid
        unfold kidC
        rw [q3]
        have hm := hG.2.2.2
        refine (ih W rv _ kk b (rg t c) h1 hkid hG.2.1 (by show r.ran.length ≤ r.steps + 1; omega) (by show r.forks + 1 ≤ r.steps + 1; omega) hn hm).mono ?_
        rintro e w' ⟨rv', he, hw', hf'⟩
        exact ⟨rv', he, hw', h2.frame h1 hf', hf'⟩
      have hlen : Hid (t.has.length = 4 ∧ t.hand.length = 4) := ⟨HS.out.1.has, HS.out.1.hand⟩
      go_upto_region 10 with fail
      generalize (w3.setCell ⟨bt, 23, none⟩ (.int .i64 ((t.forks : Int) + 1))).setCell ⟨E.bw, 8, none⟩ (.int .i64 ((r.forks : Int) + 1)) = w5 at *
      clear i1 i2 i3 c23 c8 f23 f8 mt4 mw4 mf4 mt3 mw3 mf3
      have c23 : w5.cell? ⟨bt, 23, none⟩ = some (.int .i64 ((t.forks : Int) + 1)) := mt5.c23
      have c24 : w5.cell? ⟨bt, 24, none⟩ = some (.int .i64 tk.key) := by rw [← hkey]; exact mt5.c24
      go_wp2_with fail
      go_quiet ((go_at_call 79; exact Calls.quiet_of_same (HK.out _)))
      go_upto_region 11 with fail
      have mw6 : Rh E (w5.drewN nq) rv (forkR (up1 r)) := mw5.drewN nq
      have mt6 := mt5.drewN nq
      have mf6 := mf5.drewN nq
      have i1 : (w5.drewN nq).cell? ⟨bi, 1, none⟩ = some (.int .i64 a) := k1
      have i2 : (w5.drewN nq).cell? ⟨bi, 2, none⟩ = some (.int .i64 b) := k2
      have i3 : (w5.drewN nq).cell? ⟨bi, 3, none⟩ = some (.int .i64 c) := k3
      have cc : (w5.drewN nq).cell? ⟨bt, c, none⟩ = some (.int .i64 (rg t c)) := mt6.reg hc8
      generalize w5.drewN nq = w6 at *
      clear k1 k2 k3 c23 c24 mw5 mt5 mf5 nq HK
      obtain ⟨en, hen⟩ : ∃ en, (kidC E r t b (rg t c)).2.e = en := ⟨_, rfl⟩
      rw [hen] at HT HO
      obtain ⟨r6, hr6⟩ : ∃ r6, told (kidC E r t b (rg t c)).1 b (rg t c) (kidK chY t) en = r6 := ⟨_, rfl⟩
      rw [hr6] at HT HO
      have HO2 : Hid (fkB E r t a b (rg t c) = (r6, forkT (down1 t) a en)) := HO
      clear hen hr6 HO
      generalize kidK chY t = kq at *
      obtain ⟨y, hy⟩ : ∃ y, rg t c = y := ⟨_, rfl⟩
      rw [hy] at HT cc
      clear hy
      have hci : (c : Int) < 8 := by omega
      have hai : (a : Int) < 4 := by omega
      have hbi6 := block_lt_of_cell i1
      simp only at hbi6
      have mt6b : Tr E w6 bt { down1 t with forks := t.forks + 1 } := mt6
      obtain ⟨t5, ht5⟩ : ∃ t5, ({ down1 t with forks := t.forks + 1 } : Ts) = t5 := ⟨_, rfl⟩
      rw [ht5] at mt6b HT
      have HT5 : Hid (({ down1 t with forks := t.forks + 1 } : Ts) = t5) := ht5
      clear ht5 mt6
      have hwa := mw6.alloc (.cells #[.int .i64 0, .int .i64 0] 29)
      have hta := mt6b.alloc (.cells #[.int .i64 0, .int .i64 0] 29)
      have hga := heap_alloc_new w6 (.cells #[.int .i64 0, .int .i64 0] 29)
      have HEX : Hid (¬ Ex E w6.heap.size) := fun hk => by have := (mw6.exlo hk).2; omega
      have hbl := mt6b.lt
      have hlo := mw6.size
      have hws : w.heap.size ≤ w6.heap.size := mf6.low.size
      have HBI : Hid (¬ Ex E bi) := fun hk => by have := mex bi hk; omega
      have hi1a : (w6.alloc (.cells #[.int .i64 0, .int .i64 0] 29)).cell? ⟨bi, 1, none⟩ = some (.int .i64 a) := (World.cell?_of_block (Below.heap_alloc _ _ _ hbi6)).trans i1
      have mfa := mf6.alloc hlo (.cells #[.int .i64 0, .int .i64 0] 29)
      go_cut [8] (fun v wx => ∃ b8, v = .pointer (some ⟨b8, 0, none⟩) ∧ At8 E w bt bi a r6 t5 en b8 wx)
      case first =>
        go_region_law (go_simp; go_at_call 26; first | (refine (HT.out _ hwa.drew hta.drew).mono ?_; rintro e w7 ⟨rv', rfl, hw7, ht7, hF7⟩; have g8 := (hF7.mid _ (lt_of_block hga) HEX.out (by simp)).trans hga; have c80 := cell_of_row w7 _ 0 _ _ _ g8; have c81 := cell_of_row w7 _ 1 _ _ _ g8; have f80 := frozen_of_row w7 _ 0 _ _ g8; have f81 := frozen_of_row w7 _ 1 _ _ g8; have hfin := At8.made en hw7 ht7 (mfa.drew.trans (hF7.wide _)) g8 (by omega) hws hlo ((World.cell?_of_block (hF7.mid bi (Nat.lt_trans hbi6 (lt_of_block hga)) HBI.out (by simp))).trans hi1a) (by omega)) | (refine (HT.out _ mw6.drew mt6b.drew).mono ?_; rintro e w7 ⟨rv', rfl, hw7, ht7, hF7⟩; have hb7 := ht7.lt; have hs7 := hF7.low.size; have hfin : At8 E w bt bi a r6 t5 en w7.heap.size (w7.alloc (.cells #[.int .i64 en.h, .int .i64 en.v] 29)) := ⟨⟨rv', hw7.alloc _⟩, ht7.alloc _, (mf6.drew.trans (hF7.wide _)).alloc hw7.size _, heap_alloc_new w7 _, by omega, (World.cell?_of_block (Below.heap_alloc _ _ _ (Nat.lt_of_lt_of_le hbi6 hs7))).trans ((World.cell?_of_block (hF7.mid bi hbi6 HBI.out (by simp))).trans i1)⟩))
        all_goals
          go_wp2_with fail
          go_meet
          exact ⟨_, rfl, by first | exact hfin | exact hfin.drew⟩
      case rest =>
        obtain ⟨b8, rfl, h8⟩ := hcut
        clear i1 i2 i3 cc mw6 mf6 mt6b hwa hta hga hi1a mfa HT hdd hf hfd HF
        obtain ⟨⟨rv', mw8⟩, mt8, mf8, g8, hb8, i1⟩ := h8
        have e0 : wc.cell? ⟨b8, 0, none⟩ = some (.int .i64 en.h) := cell_of_row _ _ _ _ _ _ g8
        have e1 : wc.cell? ⟨b8, 1, none⟩ = some (.int .i64 en.v) := cell_of_row _ _ _ _ _ _ g8
        have ca := mt8.has ha4
        have fa := mt8.frozen (8 + a)
        obtain ⟨cg, ch⟩ := mt8.hand ha4
        have fg := mt8.frozen (12 + a * 2)
        have fh := mt8.frozen (12 + a * 2 + 1)
        have hb82 : bt ≠ b8 := fun e => hb8 e.symm
        have HL : Hid (t5.has.length = 4 ∧ t5.hand.length = 4) := by show _ ∧ _; rw [← HT5.out]; exact hlen.out
        have HFT : Hid (forkT (down1 t) a en = { t5 with has := t5.has.set a true, hand := t5.hand.set a en }) := by show _ = _; rw [← HT5.out]; rfl
        go_wp2_with fail
        go_region
        all_goals
          go_wp2_with fail
          first
            | exact bodyPost_end (v := .tuple #[]) (by simp [results, Tryd.results59, go_sem]) rfl (by rw [HO2.out, HFT.out]; exact ⟨rv', rfl, (mw8.drew.setT2 mt8.drew _ _ _ _).setOther (heap_setCell_same _ _ _ _ _ _ (heap_setCell_same _ _ _ _ _ _ mt8.drew.box)) (by decide) (by decide) (by decide) (by decide) mt8.lo _ _, (mt8.drew.setHas HL.out.1 ha4 true).setHand HL.out.2 ha4 en.h en.v, (mf8.drew.setT2 mt8.lo _ _ _ _).setT mt8.lo _ _⟩)
            | exact bodyPost_end (v := .tuple #[]) (by simp [results, Tryd.results59, go_sem]) rfl (by rw [HO2.out, HFT.out]; exact ⟨rv', rfl, (mw8.drew.setT2 mt8.drew _ _ _ _).setOther (heap_setCell_same _ _ _ _ _ _ (heap_setCell_same _ _ _ _ _ _ mt8.drew.box)) (by decide) (by decide) (by decide) (by decide) mt8.lo _ _, (mt8.drew.setHand HL.out.2 ha4 en.h en.v).setHas HL.out.1 ha4 true, (mf8.drew.setT2 mt8.lo _ _ _ _).setT mt8.lo _ _⟩)
end Go.Proofs.YtpmapdialjdcbaaDoor
namespace Go.Proofs.YtpmapdialjdcbaaDoor
open Go.RowKit
open C2 (In Pr SlF SlI InsAt still_of_below below_then below_alloc Still)
open K6 (Ky)

theorem putR_len (x : Rn) : ∀ L : List Rn, (putR L x).length = L.length + 1
  | [] => rfl
  | a :: L => by
    unfold putR
    split
    · rw [List.length_cons, putR_len x L, List.length_cons]
    · rfl
theorem told_len (r : Rs) (fn arg key : Int) (e : En) : (told r fn arg key e).ran.length ≤ r.ran.length + 1 := by
  unfold told
  split
  · omega
  · show (putR r.ran _).length ≤ _
    rw [putR_len]
    omega
/-- what ran is no more than what was done -/
theorem ran_le (p : Pg7) (most : Nat) (depth : Int → Int) (child : Int → Int → Int) : ∀ (n : Nat) (r : Rs) (t : Ts), (loopP p most depth child n r t).1.ran.length + r.steps ≤ (loopP p most depth child n r t).1.steps + r.ran.length
  | n, r, t => by
    by_cases h0 : t.e.h ≠ 0 ∨ r.over = true
    · rw [loopP_end p most depth child h0]; show r.ran.length + r.steps ≤ r.steps + r.ran.length; omega
    have e1 : t.e.h = 0 := by
      by_cases h : t.e.h = 0
      · exact h
      · exact absurd (.inl h) h0
    have e2 : r.over = false := by
      cases h : r.over with
      | false => rfl
      | true => exact absurd (.inr h) h0
    by_cases h3 : t.fuel = 0
    · rw [loopP_fuel p most depth child e1 e2 h3]; show r.ran.length + r.steps ≤ r.steps + r.ran.length; omega
    by_cases h4 : most ≤ r.steps
    · rw [loopP_over p most depth child e1 e2 h3 h4]; show r.ran.length + r.steps ≤ r.steps + r.ran.length; omega
    cases n with
    | zero =>
      unfold loopP
      rw [if_neg h0, if_neg h3, if_neg h4]
      show r.ran.length + r.steps ≤ r.steps + r.ran.length
      omega
    | succ n =>
      rw [loopP_step p most depth child ⟨e1, e2, h3, by omega⟩]
      have hu : (up1 r).steps = r.steps + 1 := rfl
      have huf : (up1 r).ran = r.ran := rfl
      have hf : (forkR (up1 r)).steps = r.steps + 1 := rfl
      have hff : (forkR (up1 r)).ran = r.ran := rfl
      unfold bodyP
      split
      · split
        · have := ran_le p most depth child n (up1 r) ((down1 t).ends 6); rw [huf] at this; omega
        · split
          · have := ran_le p most depth child n (up1 r) ((down1 t).ends 9); rw [huf] at this; omega
          · have k1 := ran_le p most depth child n (forkR (up1 r)) (ts0 (ins7 p t).b.toNat (rg t (ins7 p t).c) (child t.key (t.forks + 1)) p.fuel.toNat)
            generalize loopP p most depth child n (forkR (up1 r)) (ts0 (ins7 p t).b.toNat (rg t (ins7 p t).c) (child t.key (t.forks + 1)) p.fuel.toNat) = q at *
            have k2 := ran_le p most depth child n (told q.1 (ins7 p t).b (rg t (ins7 p t).c) (child t.key (t.forks + 1)) q.2.e) (forkT (down1 t) (ins7 p t).a q.2.e)
            have k3 := told_len q.1 (ins7 p t).b (rg t (ins7 p t).c) (child t.key (t.forks + 1)) q.2.e
            rw [(told_steps _ _ _ _ _).1] at k2
            rw [hff] at k1
            omega
      · have k := ran_le p most depth child n (oneP (up1 r) (down1 t) (ins7 p t)).1 (oneP (up1 r) (down1 t) (ins7 p t)).2
        obtain ⟨o1, -, o3, -⟩ := oneP_steps (up1 r) (down1 t) (ins7 p t)
        rw [o1, o3, huf] at k
        omega
set_option maxHeartbeats 2000000 in
set_option maxRecDepth 4000 in
theorem rone_9 {E : Ev7} (hp : Ok7 E.p) {n : Nat} (ih : RTaskOk E n) (hM : E.M ≤ 20000) {w : World} {rv : Value} {r : Rs} {t : Ts} {bt a b c : Nat} {tk : Ky} (hw : Rh E w rv (up1 r)) (ht : Tr E w bt (down1 t)) (h : St7 E.p r t tk) (hg : goesB E.M r t) (hl1 : r.ran.length ≤ r.steps) (hl2 : r.forks ≤ r.steps) (hn : E.M - (r.steps + 1) ≤ n)
    (h9 : (ins7 E.p t).o = 9) (hb : (ins7 E.p t).b = b) (hc : (ins7 E.p t).c = c) (ha4 : a < 4) (hc8 : c < 8) :
    Calls Tryd.prog 36 #[.pointer (some ⟨E.bw, 0, none⟩), .pointer (some ⟨bt, 0, none⟩), .agg #[.int .i64 9, .int .i64 a, .int .i64 b, .int .i64 c]] w fun e w' => RFk E bt w (fkB E r t a b (rg t c)) e w' := by
  have hM' := Mr.made 9 a b c hw ht
  have HQ : Hid (∀ w, Rh E w rv (up1 r) → Tr E w bt (down1 t) → Calls Tryd.prog 59 #[.pointer (some ⟨E.bw, 0, none⟩), .pointer (some ⟨bt, 0, none⟩), .agg #[.int .i64 9, .int .i64 a, .int .i64 b, .int .i64 c]] w fun e w' => RFk E bt w (fkB E r t a b (rg t c)) e w') := fun w h1 h2 => roth_9 hp ih hM h1 h2 h hg hl1 hl2 hn h9 hb hc ha4 hc8
  clear hw ht h hg hl1 hl2 hn h9 hb hc ih
  go_enter Tryd.func36, Tryd.ntmps36
  go_upto_region 2 with fail
  generalize hW2 : w.alloc (.cells #[.int .i64 9, .int .i64 a, .int .i64 b, .int .i64 c] 54) = w2 at *
  generalize hBI : w.heap.size = bi at *
  clear hW2 hBI
  obtain ⟨mw, mt, mf, ml, mlw, mex, j0, j1, j2, j3⟩ := hM'
  have mn : bi ≠ bt := by omega
  have mn2 : bt ≠ bi := by omega
  go_wp2_with fail
  refine (HQ.out _ mw mt).mono ?_
  rintro e w3 ⟨rv', rfl, hw3, ht3, hf3⟩
  go_wp2_with fail
  exact bodyPost_end (v := .tuple #[]) (by simp [results, Tryd.results36, go_sem]) rfl ⟨rv', rfl, hw3, ht3, mf.trans hf3⟩
/-- how far the reference is -/
structure Go7 (E : Ev7) (n : Nat) (bt : Nat) (tk : Ky) (r0 : Rs) (t0 : Ts) (w0 : World) (rv : Value) (r : Rs) (t : Ts) (w : World) : Prop where
  rh : Rh E w rv r
  tr : Tr E w bt t
  fr : FrR E (some bt) w0 w
  ev : ev7 E.p E.M r0 t0 = ev7 E.p E.M r t
  l1 : r.ran.length ≤ r.steps
  l2 : r.forks ≤ r.steps
  st : r.over = true ∨ r.over = false ∧ St7 E.p r t tk ∧ r.steps ≤ E.M ∧ E.M - r.steps ≤ n
theorem fk_go {E : Ev7} (hp : Ok7 E.p) {n : Nat} {r : Rs} {t : Ts} {tk : Ky} {a b c : Nat} (h : St7 E.p r t tk) (hg : goesB E.M r t) (hx : ins7 E.p t = ⟨9, a, b, c⟩) (hl1 : r.ran.length ≤ r.steps) (hl2 : r.forks ≤ r.steps) (hn : E.M - r.steps ≤ n) :
    ev7 E.p E.M r t = ev7 E.p E.M (fkB E r t a b (rg t c)).1 (fkB E r t a b (rg t c)).2 ∧ (fkB E r t a b (rg t c)).1.ran.length ≤ (fkB E r t a b (rg t c)).1.steps ∧ (fkB E r t a b (rg t c)).1.forks ≤ (fkB E r t a b (rg t c)).1.steps ∧
    ((fkB E r t a b (rg t c)).1.over = true ∨ (fkB E r t a b (rg t c)).1.over = false ∧ St7 E.p (fkB E r t a b (rg t c)).1 (fkB E r t a b (rg t c)).2 tk ∧ (fkB E r t a b (rg t c)).1.steps ≤ E.M ∧ E.M - (fkB E r t a b (rg t c)).1.steps ≤ n) ∧ r.steps < (fkB E r t a b (rg t c)).1.steps := by
  have hsM := hg.2.2.2
  have h9 : (ins7 E.p t).o = 9 := by rw [hx]
  have e1 : (up1 r).steps = r.steps + 1 := rfl
  have e2 : (up1 r).forks = r.forks := rfl
  have e3 : (up1 r).ran = r.ran := rfl
  by_cases hd : E.p.depth ≤ depK t.key
  · have hq : fkB E r t a b (rg t c) = (up1 r, (down1 t).ends 6) := by unfold fkB; rw [if_pos hd]
    rw [hq]
    refine ⟨?_, by show (up1 r).ran.length ≤ (up1 r).steps; rw [e3]; omega, by show (up1 r).forks ≤ (up1 r).steps; omega, .inr ⟨hg.2.1, (h.down hp hg.1 (by omega) (by omega)).ends hg.1 (by decide) (by decide), by show r.steps + 1 ≤ E.M; omega, by show E.M - (r.steps + 1) ≤ n; omega⟩, by show r.steps < r.steps + 1; omega⟩
    unfold ev7
    rw [evP_step E.p E.M depK chY hg]; unfold bodyP; rw [if_pos h9, if_pos hd]
  · by_cases hf : 1000 ≤ t.forks
    · have hq : fkB E r t a b (rg t c) = (up1 r, (down1 t).ends 9) := by unfold fkB; rw [if_neg hd, if_pos hf]
      rw [hq]
      refine ⟨?_, by show (up1 r).ran.length ≤ (up1 r).steps; rw [e3]; omega, by show (up1 r).forks ≤ (up1 r).steps; omega, .inr ⟨hg.2.1, (h.down hp hg.1 (by omega) (by omega)).ends hg.1 (by decide) (by decide), by show r.steps + 1 ≤ E.M; omega, by show E.M - (r.steps + 1) ≤ n; omega⟩, by show r.steps < r.steps + 1; omega⟩
      unfold ev7
      rw [evP_step E.p E.M depK chY hg]; unfold bodyP; rw [if_pos h9, if_neg hd, if_pos hf]
    · have hq : fkB E r t a b (rg t c) = (told (kidC E r t b (rg t c)).1 b (rg t c) (kidK chY t) (kidC E r t b (rg t c)).2.e, forkT (down1 t) a (kidC E r t b (rg t c)).2.e) := by unfold fkB; rw [if_neg hd, if_neg hf]
      rw [hq]
      obtain ⟨kk, q1, -, -, q3, q4, q5, -, -, -, -, q6, q7⟩ := kid_key hp h hd hf
      have hkid := kid_st hp h hg.1 h9 q1 q3 q4 q6 q7
      have hE := fork_eq hg h9 hd hf
      have hkT : kidT E.p chY t = ts0 b (rg t c) (kidK chY t) E.p.fuel.toNat := by
        unfold kidT kidK
        rw [hx]
        rfl
      rw [hkT] at hE hkid
      rw [hx] at hE
      simp only at hE
      have hr1 := ran_le E.p E.M depK chY E.M (forkR (up1 r)) (ts0 b (rg t c) (kidK chY t) E.p.fuel.toNat)
      have hr2 := forks_le E.p E.M depK chY E.M (forkR (up1 r)) (ts0 b (rg t c) (kidK chY t) E.p.fuel.toNat)
      have hm := evP_mono E.p E.M depK chY (forkR (up1 r)) (ts0 b (rg t c) (kidK chY t) E.p.fuel.toNat)
      have hl := ev_le (p := E.p) (M := E.M) E.M (forkR (up1 r)) (ts0 b (rg t c) (kidK chY t) E.p.fuel.toNat) (by omega) (by show r.steps + 1 ≤ E.M; omega)
      have f1 : (forkR (up1 r)).steps = r.steps + 1 := rfl
      have f2 : (forkR (up1 r)).forks = r.forks + 1 := rfl
      have f3 : (forkR (up1 r)).ran = r.ran := rfl
      have hfin := fun ho => ev_fin hp E.M E.M (forkR (up1 r)) _ kk (by omega) hkid hg.2.1 ho
      have hcc : kidC E r t b (rg t c) = ev7 E.p E.M (forkR (up1 r)) (ts0 b (rg t c) (kidK chY t) E.p.fuel.toNat) := rfl
      have hcc2 : loopP E.p E.M depK chY E.M (forkR (up1 r)) (ts0 b (rg t c) (kidK chY t) E.p.fuel.toNat) = kidC E r t b (rg t c) := rfl
      have hcc3 : evP E.p E.M depK chY (forkR (up1 r)) (ts0 b (rg t c) (kidK chY t) E.p.fuel.toNat) = kidC E r t b (rg t c) := rfl
      rw [hcc2] at hr1 hr2
      rw [hcc3] at hm
      rw [← hcc] at hE hl hfin
      generalize kidC E r t b (rg t c) = cc at *
      have hS := told_steps cc.1 b (rg t c) (kidK chY t) cc.2.e
      have hL := told_len cc.1 b (rg t c) (kidK chY t) cc.2.e
      have hK := told_forks cc.1 b (rg t c) (kidK chY t) cc.2.e
      rw [f1, f3] at hr1
      rw [f1, f2] at hr2
      refine ⟨hE, ?_, ?_, ?_, ?_⟩
      · simp only; omega
      · simp only; omega
      · by_cases ho : cc.1.over = true
        · exact .inl (hS.2.trans ho)
        · have ho2 : cc.1.over = false := by simpa using ho
          have hN := fork_st hp h hg.1 h9 hf q4 q5 q7 (hfin ho2) ho2
          rw [hx, ← q3] at hN
          exact .inr ⟨hS.2.trans ho2, hN, by simp only; omega, by simp only; omega⟩
      · simp only; omega
/-- an instruction, whatever it is -/
theorem rstep {E : Ev7} (hp : Ok7 E.p) {n : Nat} (ih : ∀ m, m < n → RTaskOk E m) (hM : E.M ≤ 20000) {w0 w : World} {rv : Value} {r r0 : Rs} {t t0 : Ts} {bt : Nat} {tk : Ky} (hw : Rh E w rv (up1 r)) (ht : Tr E w bt (down1 t)) (hf : FrR E (some bt) w0 w) (hev : ev7 E.p E.M r0 t0 = ev7 E.p E.M r t) (h : St7 E.p r t tk) (hg : goesB E.M r t) (hl1 : r.ran.length ≤ r.steps) (hl2 : r.forks ≤ r.steps) (hn : E.M - r.steps ≤ n) :
    Calls Tryd.prog 36 #[.pointer (some ⟨E.bw, 0, none⟩), .pointer (some ⟨bt, 0, none⟩), .agg #[.int .i64 (ins7 E.p t).o, .int .i64 (ins7 E.p t).a, .int .i64 (ins7 E.p t).b, .int .i64 (ins7 E.p t).c]] w fun e w' => e = .returned (.tuple #[]) ∧ ∃ rv' r' t', Go7 E n bt tk r0 t0 w0 rv' r' t' w' ∧ r.steps < r'.steps := by
  have hsM := hg.2.2.2
  by_cases h9 : (ins7 E.p t).o = 9
  · obtain ⟨m, rfl⟩ : ∃ m, n = m + 1 := ⟨n - 1, by omega⟩
    have hx := (hp.fn _ h.fnm).2.2.2 _ (h.insm hg.1)
    have hs := shape_facts hx.1
    obtain ⟨x, hX⟩ : ∃ x, ins7 E.p t = x := ⟨_, rfl⟩
    rw [hX] at hs h9 ⊢
    obtain ⟨xo, xa, xb, xc⟩ := x
    simp only at h9
    subst h9
    obtain ⟨a, rfl⟩ : ∃ a : Nat, xa = a := ⟨xa.toNat, by have := hs.a0; simp only at *; omega⟩
    obtain ⟨b, rfl⟩ : ∃ b : Nat, xb = b := ⟨xb.toNat, by have := hs.b0; simp only at *; omega⟩
    obtain ⟨c, rfl⟩ : ∃ c : Nat, xc = c := ⟨xc.toNat, by have := hs.c0; simp only at *; omega⟩
    have ha : a < 4 := by have := hs.a3 (.inl rfl); simp only at this; omega
    have hc : c < 8 := by have := hs.c7; simp only at this; omega
    have h9 : (ins7 E.p t).o = 9 := by rw [hX]
    refine (rone_9 hp (ih m (by omega)) hM hw ht h hg hl1 hl2 (by omega) h9 (by rw [hX]) (by rw [hX]) ha hc).mono ?_
    rintro e w' ⟨rv', he, hw', ht', hf'⟩
    obtain ⟨k1, k2, k3, k4, k5⟩ := fk_go hp h hg hX hl1 hl2 hn
    exact ⟨he, rv', _, _, ⟨hw', ht', hf.trans hf', hev.trans k1, k2, k3, k4⟩, k5⟩
  · refine (rone_any hp hw ht h hg.1 h9).mono ?_
    rintro e w' ⟨he, hw', ht', hf'⟩
    obtain ⟨s1, s2, s3, s4⟩ := oneP_steps (up1 r) (down1 t) (ins7 E.p t)
    have e1 : (up1 r).steps = r.steps + 1 := rfl
    have e2 : (up1 r).forks = r.forks := rfl
    have e3 : (up1 r).ran = r.ran := rfl
    refine ⟨he, rv, _, _, ⟨hw', ht', hf.trans hf', ?_, by rw [s3, e3]; omega, by omega, .inr ⟨s2.trans hg.2.1, one_st hp h hg.1, by omega, by omega⟩⟩, by omega⟩
    rw [hev]
    unfold ev7
    rw [evP_step E.p E.M depK chY hg]; unfold bodyP; rw [if_neg h9]
end Go.Proofs.YtpmapdialjdcbaaDoor
namespace Go.Proofs.YtpmapdialjdcbaaDoor
open Go.RowKit
open C2 (In Pr SlF SlI InsAt still_of_below below_then below_alloc Still)
open K6 (Ky)

def ts00 (fn : Nat) (key : Int) (fuel : Nat) : Ts := ⟨[0, 0, 0, 0, 0, 0, 0, 0], [false, false, false, false], [en0, en0, en0, en0], fn, 0, fuel, 0, key, en0⟩
theorem Rh.c3 {E : Ev7} {w : World} {rv : Value} {r : Rs} (h : Rh E w rv r) : w.cell? ⟨E.bw, 3, none⟩ = some (.int .i64 E.p.fuel) := h.cellsAt 3
theorem Rh.c7 {E : Ev7} {w : World} {rv : Value} {r : Rs} (h : Rh E w rv r) : w.cell? ⟨E.bw, 7, none⟩ = some (.int .i64 r.steps) := h.cellsAt 7
theorem Rh.c9 {E : Ev7} {w : World} {rv : Value} {r : Rs} (h : Rh E w rv r) : w.cell? ⟨E.bw, 9, none⟩ = some (.int .i64 E.M) := h.cellsAt 9
theorem Rh.c10 {E : Ev7} {w : World} {rv : Value} {r : Rs} (h : Rh E w rv r) : w.cell? ⟨E.bw, 10, none⟩ = some (.bool r.over) := h.cellsAt 10
theorem Rh.c0 {E : Ev7} {w : World} {rv : Value} {r : Rs} (h : Rh E w rv r) : w.cell? ⟨E.bw, 0, none⟩ = some E.fv := h.cellsAt 0
theorem Rh.c4 {E : Ev7} {w : World} {rv : Value} {r : Rs} (h : Rh E w rv r) : w.cell? ⟨E.bw, 4, none⟩ = some rv := h.cellsAt 4
theorem Tr.c20 {E : Ev7} {w : World} {bt : Nat} {t : Ts} (h : Tr E w bt t) : w.cell? ⟨bt, 20, none⟩ = some (.int .i64 t.fn) := h.cellAt 20
theorem Tr.c21 {E : Ev7} {w : World} {bt : Nat} {t : Ts} (h : Tr E w bt t) : w.cell? ⟨bt, 21, none⟩ = some (.int .i64 t.at_) := h.cellAt 21
theorem Tr.c22 {E : Ev7} {w : World} {bt : Nat} {t : Ts} (h : Tr E w bt t) : w.cell? ⟨bt, 22, none⟩ = some (.int .i64 t.fuel) := h.cellAt 22
theorem Tr.c26 {E : Ev7} {w : World} {bt : Nat} {t : Ts} (h : Tr E w bt t) : w.cell? ⟨bt, 26, none⟩ = some (.int .i64 t.e.v) := h.cellAt 26
/-- the start -/
structure St8 (E : Ev7) (w : World) (rv : Value) (r : Rs) (t : Ts) (w2 : World) : Prop where
  rh : Rh E w2 rv r
  tr : Tr E w2 (w.heap.size + 1) t
  fr : FrR E none w w2
  box : w2.heap[w.heap.size]? = some (.cells #[.int .i64 0, .int .i64 0] 29 (0, 0))
theorem St8.made {E : Ev7} {w : World} {rv : Value} {r : Rs} (fn : Nat) (key : Int) (fuel : Nat) (hw : Rh E w rv r) : St8 E w rv r (ts00 fn key fuel) ((w.alloc (.cells #[.int .i64 0, .int .i64 0] 29)).alloc (.cells #[.int .i64 0, .int .i64 0, .int .i64 0, .int .i64 0, .int .i64 0, .int .i64 0, .int .i64 0, .int .i64 0, .bool false, .bool false, .bool false, .bool false, .int .i64 0, .int .i64 0, .int .i64 0, .int .i64 0, .int .i64 0, .int .i64 0, .int .i64 0, .int .i64 0, .int .i64 fn, .int .i64 0, .int .i64 fuel, .int .i64 0, .int .i64 key, .int .i64 0, .int .i64 0] 89)) := by
  have h1 := hw.size
  refine ⟨(hw.alloc _).alloc _, ⟨by omega, ?_⟩, ((FrR.refl _ _ _).alloc h1 _).alloc (hw.alloc _).size _, heap_alloc2_old _ _ _⟩
  rw [heap_alloc2_new]
  rfl
theorem St8.put {E : Ev7} {w : World} {rv : Value} {r : Rs} {fn : Nat} {key : Int} {fuel : Nat} {w2 : World} (h : St8 E w rv r (ts00 fn key fuel) w2) (arg : Int) : St8 E w rv r (ts0 fn arg key fuel) (w2.setCell ⟨w.heap.size + 1, 0, none⟩ (.int .i64 (wrp arg))) := by
  have h1 := h.tr.lo
  refine ⟨h.rh.setT h.tr _ _, h.tr.setReg rfl (i := 0) (by omega) (wrp arg), h.fr.setNew (by omega) h1 _ _, ?_⟩
  exact (Below.heap_setCell _ _ _ _ (by simp only; omega)).trans h.box
theorem St8.drew {E : Ev7} {w : World} {rv : Value} {r : Rs} {t : Ts} {w2 : World} (h : St8 E w rv r t w2) : St8 E w rv r t w2.drew := ⟨h.rh.drew, h.tr.drew, h.fr.drew, h.box⟩
set_option maxHeartbeats 2000000 in
set_option maxRecDepth 4000 in
theorem rtask_any {E : Ev7} (hp : Ok7 E.p) (hM : E.M ≤ 20000) {n : Nat} (ih : ∀ m, m < n → RTaskOk E m) : RTaskOk E n := by
  intro w rv r kk fn arg hw hst ho hl1 hl2 hn hle
  obtain ⟨fuN, hfu⟩ : ∃ m : Nat, E.p.fuel = m := ⟨E.p.fuel.toNat, by have := hp.f1; omega⟩
  have hfuN : E.p.fuel.toNat = fuN := by omega
  have c3 := hw.c3
  rw [hfu] at c3
  have hS := St8.made fn kk.key fuN hw
  have HST : Hid (St7 E.p r (ts0 fn arg kk.key fuN) kk ∧ r.over = false ∧ r.ran.length ≤ r.steps ∧ r.forks ≤ r.steps ∧ E.M - r.steps ≤ n ∧ r.steps ≤ E.M) := by
    rw [hfuN] at hst
    exact ⟨hst, ho, hl1, hl2, hn, hle⟩
  have HFU : Hid (E.p.fuel = fuN ∧ E.p.fuel.toNat = fuN) := ⟨hfu, hfuN⟩
  have hlw := hw.lt
  have hlW := hw.size
  clear hst ho hl1 hl2 hn hle hfu hfuN hw
  go_enter Tryd.func26, Tryd.ntmps26
  go_upto_region 2 with fail
  generalize hW2 : (w.alloc (.cells #[.int .i64 0, .int .i64 0] 29)).alloc (.cells #[.int .i64 0, .int .i64 0, .int .i64 0, .int .i64 0, .int .i64 0, .int .i64 0, .int .i64 0, .int .i64 0, .bool false, .bool false, .bool false, .bool false, .int .i64 0, .int .i64 0, .int .i64 0, .int .i64 0, .int .i64 0, .int .i64 0, .int .i64 0, .int .i64 0, .int .i64 fn, .int .i64 0, .int .i64 fuN, .int .i64 0, .int .i64 kk.key, .int .i64 0, .int .i64 0] 89) = w2 at *
  clear hW2 c3
  have q := fun w => V1.refWrap_any arg w
  rw [v_wrap] at q
  have ca : w2.cell? ⟨w.heap.size + 1, 0, none⟩ = some (.int .i64 0) := hS.tr.reg (i := 0) (by omega)
  have fa := hS.tr.frozen 0
  go_cut [] (fun wx => St8 E w rv r (ts0 fn arg kk.key fuN) wx)
  case first =>
    go_region_law (go_simp; go_at_call 35; refine (q _).mono ?_; rintro e w3 ⟨rfl, rfl⟩)
    all_goals
      go_wp2_with fail
      go_meet
      exact (hS.put arg).drew
  case rest =>
    have hS3 : St8 E w rv r (ts0 fn arg kk.key fuN) wc := hcut
    generalize wc = w3 at *
    clear hcut hS q ca fa
    obtain ⟨t0, ht0⟩ : ∃ t0, ts0 fn arg kk.key fuN = t0 := ⟨_, rfl⟩
    rw [ht0] at hS3 HST
    have HT0 : Hid (ts0 fn arg kk.key fuN = t0) := ht0
    clear ht0
    obtain ⟨bt, hbt⟩ : ∃ bt, w.heap.size + 1 = bt := ⟨_, rfl⟩
    rw [hbt]
    have hbw : E.bw ≠ bt := by omega
    have hbw2 : bt ≠ E.bw := by omega
    have htr3 := hS3.tr
    rw [hbt] at htr3
    go_upto_block 0 with fail
    go_cut [] (fun wx => ∃ rv', Rh E wx rv' (ev7 E.p E.M r t0).1 ∧ Tr E wx bt (ev7 E.p E.M r t0).2 ∧ FrR E (some bt) w3 wx)
    case first =>
      go_wp2_with fail
      go_loopw [] (fun wr => ∃ rv' r' t', Go7 E n bt kk r t0 w3 rv' r' t' wr) (fun wr => E.M - (intOf ((wr.cell? ⟨E.bw, 7, none⟩).getD (.int .i64 0))).toNat)
      case atStart => exact ⟨rv, r, t0, hS3.rh, htr3, FrR.refl _ _ _, rfl, HST.out.2.2.1, HST.out.2.2.2.1, .inr ⟨HST.out.2.1, HST.out.1, HST.out.2.2.2.2.2, HST.out.2.2.2.2.1⟩⟩
      case round =>
        obtain ⟨rv', r', t', hG⟩ := hrel
        have c25 := hG.tr.c25
        have c10 := hG.rh.c10
        by_cases he : t'.e.h = 0
        · cases hov : r'.over with
          | true =>
            have e1 : ev7 E.p E.M r' t' = (r', t') := evP_end E.p E.M depK chY (.inr hov)
            have HX : Hid (ev7 E.p E.M r t0 = (r', t')) := hG.ev.trans e1
            rw [he] at c25
            rw [hov] at c10
            clear he hov e1 hS3 htr3
            go_wp2_with fail
            go_meet
            exact ⟨rv', by rw [HX.out]; exact hG.rh, by rw [HX.out]; exact hG.tr, hG.fr⟩
          | false =>
            obtain ⟨-, hst, hle, hn⟩ : r'.over = false ∧ St7 E.p r' t' kk ∧ r'.steps ≤ E.M ∧ E.M - r'.steps ≤ n := by
              rcases hG.st with h | h
              · rw [hov] at h; cases h
              · exact h
            have c22 := hG.tr.c22
            rw [he] at c25
            rw [hov] at c10
            by_cases hf0 : t'.fuel = 0
            · have e1 : ev7 E.p E.M r' t' = (r', t'.ends 5) := evP_fuel E.p E.M depK chY he hov hf0
              have HX : Hid (ev7 E.p E.M r t0 = (r', t'.ends 5)) := hG.ev.trans e1
              have f25 := hG.tr.frozen 25
              rw [hf0] at c22
              clear he hov e1 hS3 htr3 hst hle hn hf0
              go_wp2_with fail
              go_meet
              exact ⟨rv', by rw [HX.out]; exact hG.rh.setT hG.tr _ _, by rw [HX.out]; exact hG.tr.setEnds 5, hG.fr.setT hG.tr.lo _ _⟩
            · obtain ⟨m, hm⟩ : ∃ m, t'.fuel = m + 1 := ⟨t'.fuel - 1, by omega⟩
              have c7 := hG.rh.c7
              have c9 := hG.rh.c9
              have hfz : ((m : Int) + 1 == 0) = false := by rw [beq_eq_false_iff_ne]; omega
              rw [hm, show ((m + 1 : Nat) : Int) = (m : Int) + 1 by omega] at c22
              have hm5 : m ≤ 500 := by have := hst.fuel; omega
              by_cases hM2 : E.M ≤ r'.steps
              · have e1 : ev7 E.p E.M r' t' = ({ r' with over := true }, t') := evP_over E.p E.M depK chY he hov hf0 hM2
                have HX : Hid (ev7 E.p E.M r t0 = ({ r' with over := true }, t')) := hG.ev.trans e1
                have hMd : decide ((E.M : Int) ≤ (r'.steps : Int)) = true := by simp; omega
                have hMi : (E.M : Int) ≤ (r'.steps : Int) := by omega
                clear he hov e1 hS3 htr3 hst hle hn hf0 hM2 hm
                go_wp2_with fail
                go_quiet (fail)
                have mt4 := hG.tr.drewN nq
                have mw4 := hG.rh.drewN nq
                have mf4 := hG.fr.drewN nq
                generalize wr.drewN nq = w4 at *
                clear hG c25 c10 c22 c7 c9 hMd hMi
                have c10 := mw4.c10
                have f10 := mw4.frozen 10
                go_wp2_with fail
                go_meet
                exact ⟨rv', by rw [HX.out]; exact mw4.setOv true, by rw [HX.out]; exact mt4.setEx mw4 (.inl rfl) _ _, mf4.setEx (.inl rfl) mw4.lo _ _⟩
              · have hMd : decide ((E.M : Int) ≤ (r'.steps : Int)) = false := by simp; omega
                have hg : goesB E.M r' t' := ⟨he, hov, hf0, by omega⟩
                have HG : Hid (goesB E.M r' t' ∧ St7 E.p r' t' kk ∧ r'.steps ≤ E.M ∧ E.M - r'.steps ≤ n ∧ t'.fuel = m + 1) := ⟨hg, hst, hle, hn, hm⟩
                have HGG : Hid (Go7 E n bt kk r t0 w3 rv' r' t' wr) := hG
                obtain ⟨fa, fc, hfv, hfx⟩ := hG.rh.fns
                have hfn := hst.fn
                have hat := hst.at_ he
                obtain ⟨g, f, cv, rfl, hcc, hcI⟩ := hfx t'.fn hfn
                obtain ⟨ca, ccap, rfl, hix⟩ := hcI
                have hcg : E.p.fs.getD t'.fn [] = E.p.fs[t'.fn] := by rw [List.getD_eq_getElem?_getD, List.getElem?_eq_getElem hfn]; rfl
                rw [hcg] at hat
                obtain ⟨g2, f2, rfl, hI⟩ := hix t'.at_ hat
                have hie : E.p.fs[t'.fn][t'.at_] = ins7 E.p t' := by
                  unfold ins7
                  rw [hcg, List.getD_eq_getElem?_getD, List.getElem?_eq_getElem hat]
                  rfl
                rw [hie] at hI
                obtain ⟨cm, hcm⟩ : ∃ cm, E.p.fs[t'.fn].length = cm := ⟨_, rfl⟩
                have HI : Hid (∀ W rw rr, Rh E W rw rr → InsAt W g2 (f2 + t'.at_ * 4) (ins7 E.p t')) := fun W rw rr h => hI.still (still_of_below h.base)
                have HCC : Hid (∀ W rw rr, Rh E W rw rr → W.cell? ⟨g, f + t'.fn, none⟩ = some (.slice (some ⟨g2, f2, none⟩) cm ccap)) := fun W rw rr h => by rw [← hcm]; exact still_of_below h.base _ _ hcc
                have HFV : Hid (E.fv = .slice (some ⟨g, f, none⟩) E.p.fs.length fc) := hfv
                have hfni : (t'.fn : Int) < E.p.fs.length := by omega
                have hati : (t'.at_ : Int) < cm := by omega
                have h40 : cm ≤ 40 := by
                  have := (hp.fn _ hst.fnm).2.1
                  rw [hcg, hcm] at this
                  exact this
                have hfl := hp.n1
                have hsM : r'.steps ≤ 20000 := by omega
                clear he hov hS3 htr3 hst hle hn hf0 hM2 hm hg hfx hat hcc hix hcg hI hie hfv hcm
                go_wp2_with fail
                go_quiet (fail)
                have mt4 := hG.tr.drewN nq
                have mw4 := hG.rh.drewN nq
                have mf4 := hG.fr.drewN nq
                generalize wr.drewN nq = w4 at *
                clear hG c25 c10 c7 c9 nq
                have hMn : ¬ E.M ≤ r'.steps := by have := HG.out.1.2.2.2; omega
                have hMnd : decide (E.M ≤ r'.steps) = false := by simpa using hMn
                have c22 : w4.cell? ⟨bt, 22, none⟩ = some (.int .i64 ((m : Int) + 1)) := by have := mt4.c22; rw [HG.out.2.2.2.2, show ((m + 1 : Nat) : Int) = (m : Int) + 1 by omega] at this; exact this
                have c7 := mw4.c7
                have f7 := mw4.frozen 7
                have f22 := mt4.frozen 22
                have mt5 := mt4.setFuel m
                have mw5 := mw4.setT mt4 22 (.int .i64 (m : Nat))
                have mf5 := mf4.setT mt4.lo 22 (.int .i64 (m : Nat))
                have mt6 := mt5.setEx mw5 (.inl rfl) 7 (.int .i64 ((r'.steps + 1 : Nat) : Int))
                have mw6 := mw5.setSt (r'.steps + 1)
                have mf6 := mf5.setEx (.inl rfl) mw5.lo 7 (.int .i64 ((r'.steps + 1 : Nat) : Int))
                rw [show ((r'.steps + 1 : Nat) : Int) = (r'.steps : Int) + 1 by omega] at mt6 mw6 mf6
                have hsi : (r'.steps : Int) ≤ 20000 := by omega
                go_upto_region 10 with fail
                generalize (w4.setCell ⟨bt, 22, none⟩ (.int .i64 (m : Int))).setCell ⟨E.bw, 7, none⟩ (.int .i64 ((r'.steps : Int) + 1)) = w5 at *
                clear c22 c7 f7 f22 mt5 mw5 mf5 mt4 mw4 mf4 hm5 hfz
                have c20 : w5.cell? ⟨bt, 20, none⟩ = some (.int .i64 t'.fn) := mt6.c20
                have c21 : w5.cell? ⟨bt, 21, none⟩ = some (.int .i64 t'.at_) := mt6.c21
                have c0 : w5.cell? ⟨E.bw, 0, none⟩ = some (.slice (some ⟨g, f, none⟩) E.p.fs.length fc) := by rw [← HFV.out]; exact mw6.c0
                have cg := HCC.out _ _ _ mw6
                obtain ⟨i0, i1, i2, i3⟩ := HI.out _ _ _ mw6
                obtain ⟨x, hx⟩ : ∃ x, ins7 E.p t' = x := ⟨_, rfl⟩
                rw [hx] at i0 i1 i2 i3
                have HXI : Hid (ins7 E.p t' = x) := hx
                clear hx
                have hg2l := block_lt_of_cell i0
                have hgl := block_lt_of_cell cg
                have hbl := mt6.lt
                have hwl := mw6.lt
                simp only at hg2l hgl
                go_wp2_with fail
                go_region
                go_upto_region 11 with fail
                have mt7 := (mt6.alloc (.cells #[.int .i64 x.o, .int .i64 x.a, .int .i64 x.b, .int .i64 x.c] 54)).drew
                have mw7 := (mw6.alloc (.cells #[.int .i64 x.o, .int .i64 x.a, .int .i64 x.b, .int .i64 x.c] 54)).drew
                have mf7 := (mf6.alloc mw6.size (.cells #[.int .i64 x.o, .int .i64 x.a, .int .i64 x.b, .int .i64 x.c] 54)).drew
                have hbx : (w5.alloc (.cells #[.int .i64 x.o, .int .i64 x.a, .int .i64 x.b, .int .i64 x.c] 54)).drew.heap[w5.heap.size]? = _ := heap_alloc_new w5 _
                generalize (w5.alloc (.cells #[.int .i64 x.o, .int .i64 x.a, .int .i64 x.b, .int .i64 x.c] 54)).drew = w7 at *
                obtain ⟨bi, hbi⟩ : ∃ bi, w5.heap.size = bi := ⟨_, rfl⟩
                rw [hbi] at hbx ⊢
                have hne : bi ≠ bt := by omega
                have hne2 : bt ≠ bi := by omega
                clear c20 c21 c0 cg i0 i1 i2 i3 hg2l hgl hbl hwl mt6 mw6 mf6 hbi hfni hati h40
                have c21 : w7.cell? ⟨bt, 21, none⟩ = some (.int .i64 t'.at_) := mt7.c21
                have f21 := mt7.frozen 21
                have mt8 := mt7.setAt (t'.at_ + 1)
                have mw8 := mw7.setT mt7 21 (.int .i64 ((t'.at_ + 1 : Nat) : Int))
                have mf8 := mf7.setT mt7.lo 21 (.int .i64 ((t'.at_ + 1 : Nat) : Int))
                have hby := (Below.heap_setCell w7 ⟨bt, 21, none⟩ (.int .i64 ((t'.at_ + 1 : Nat) : Int)) bi hne).trans hbx
                rw [show ((t'.at_ + 1 : Nat) : Int) = (t'.at_ : Int) + 1 by omega] at mt8 mw8 mf8 hby
                have hai : (t'.at_ : Int) ≤ 1000 := by
                  have h1 := HG.out.2.1.at_ HG.out.1.1
                  have h2 := (hp.fn _ HG.out.2.1.fnm).2.1
                  omega
                go_upto_region 12 with fail
                generalize w7.setCell ⟨bt, 21, none⟩ (.int .i64 ((t'.at_ : Int) + 1)) = w8 at *
                clear c21 f21 mt7 mw7 mf7 hbx
                have i0 : w8.cell? ⟨bi, 0, none⟩ = some (.int .i64 x.o) := cell_of_row _ _ _ _ _ _ hby
                have i1 : w8.cell? ⟨bi, 1, none⟩ = some (.int .i64 x.a) := cell_of_row _ _ _ _ _ _ hby
                have i2 : w8.cell? ⟨bi, 2, none⟩ = some (.int .i64 x.b) := cell_of_row _ _ _ _ _ _ hby
                have i3 : w8.cell? ⟨bi, 3, none⟩ = some (.int .i64 x.c) := cell_of_row _ _ _ _ _ _ hby
                have mt9 : Tr E w8 bt (down1 t') := by
                  have e : down1 t' = { t' with fuel := m, at_ := t'.at_ + 1 } := by unfold down1; rw [HG.out.2.2.2.2]; rfl
                  rw [e]
                  exact mt8
                have hq := rstep hp ih hM (n := n) (w0 := w3) (r0 := r) (t0 := t0) (tk := kk) mw8 mt9 mf8 HGG.out.ev HG.out.2.1 HG.out.1 HGG.out.l1 HGG.out.l2 HG.out.2.2.2.1
                rw [HXI.out] at hq
                have HQ : Hid (Calls Tryd.prog 36 #[.pointer (some ⟨E.bw, 0, none⟩), .pointer (some ⟨bt, 0, none⟩), .agg #[.int .i64 x.o, .int .i64 x.a, .int .i64 x.b, .int .i64 x.c]] w8 fun e w' => e = .returned (.tuple #[]) ∧ ∃ rv2 r2 t2, Go7 E n bt kk r t0 w3 rv2 r2 t2 w' ∧ r'.steps < r2.steps) := hq
                clear hq mt8 mt9 mw8 mf8
                go_wp2_with fail
                refine HQ.out.mono ?_
                rintro e w9 ⟨rfl, rv2, r2, t2, hG2, hlt⟩
                go_wp2_with fail
                go_roundw
                case rel => exact ⟨rv2, r2, t2, hG2⟩
                case measure =>
                  have e1 := hG2.rh.c7
                  have e2 := HGG.out.rh.c7
                  have e3 := HG.out.1.2.2.2
                  rw [e1, e2]
                  simp only [Option.getD_some, intOf, Int.toNat_natCast]
                  omega
        · have e1 : ev7 E.p E.M r' t' = (r', t') := evP_end E.p E.M depK chY (.inl he)
          have HX : Hid (ev7 E.p E.M r t0 = (r', t')) := hG.ev.trans e1
          have heb : (t'.e.h == 0) = false := by simpa using he
          clear e1 hS3 htr3
          go_wp2_with fail
          go_meet
          exact ⟨rv', by rw [HX.out]; exact hG.rh, by rw [HX.out]; exact hG.tr, hG.fr⟩
    case rest =>
      obtain ⟨rv', mw, mt, mf⟩ := hcut
      have hbx := (mf.mid w.heap.size (lt_of_block hS3.box) (fun hk => by have := hS3.rh.exTyp hS3.box (by decide) (by decide) (by decide); exact this hk) (by simp only [ne_eq, Option.some.injEq]; omega)).trans hS3.box
      have hF := hS3.fr.narrow mf (by omega)
      have hlo := hF.low
      have hran := ran_le E.p E.M depK chY E.M r t0
      have hrl : (ev7 E.p E.M r t0).1.ran.length ≤ (ev7 E.p E.M r t0).1.steps := by
        have h1 := HST.out.2.2.1
        have h2 : (ev7 E.p E.M r t0).1.ran.length + r.steps ≤ (ev7 E.p E.M r t0).1.steps + r.ran.length := hran
        omega
      have hsl := ev_le (p := E.p) (M := E.M) E.M r t0 (by omega) HST.out.2.2.2.2.2
      have HPO : Hid (∀ e w', (∃ rv', e = .returned (endV (ev7 E.p E.M r t0).2.e) ∧ Rh E w' rv' (told (ev7 E.p E.M r t0).1 fn arg kk.key (ev7 E.p E.M r t0).2.e) ∧ FrR E none w w') → RTask E w r fn arg kk.key e w') := fun e w' h => by
        unfold RTask
        rw [HFU.out.2, HT0.out]
        exact h
      have HLN : Hid ((ev7 E.p E.M r t0).1.ran.length ≤ 100000) := by have := hsl; show _ ≤ _; omega
      have c10 := mw.c10
      clear hran hrl hsl
      generalize ev7 E.p E.M r t0 = q at *
      obtain ⟨q1, q2⟩ := q
      simp only at mw mt mf HPO HLN c10
      cases hov : q1.over with
      | true =>
        have ht : Hid (told q1 fn arg kk.key q2.e = q1) := by show _ = _; unfold told; rw [if_pos hov]
        rw [hov] at c10
        have c25 := mt.c25
        have c26 := mt.c26
        have b0 : wc.cell? ⟨w.heap.size, 0, none⟩ = some (.int .i64 0) := cell_of_row _ _ _ _ _ _ hbx
        have b1 : wc.cell? ⟨w.heap.size, 1, none⟩ = some (.int .i64 0) := cell_of_row _ _ _ _ _ _ hbx
        have g0 := frozen_of_row wc _ 0 _ _ hbx
        have g1 := frozen_of_row wc _ 1 _ _ hbx
        clear hov
        have mwt : Rh E wc rv' (told q1 fn arg kk.key q2.e) := by rw [ht.out]; exact mw
        go_wp2_with fail
        have hg2 : (wc.setCell ⟨w.heap.size, 0, none⟩ (.int .i64 q2.e.h)).heap[w.heap.size]? = some (.cells #[.int .i64 q2.e.h, .int .i64 0] 29 (0, 0)) := by rw [heap_setCell_same _ _ _ _ _ _ hbx]; rfl
        exact bodyPost_ret (v := endV q2.e) (by simp [results, Tryd.results26, go_sem, b0, b1]) rfl (HPO.out _ _ ⟨_, rfl, (mwt.setOther hbx (by decide) (by decide) (by decide) (by decide) hlW 0 _).setOther hg2 (by decide) (by decide) (by decide) (by decide) hlW 1 _, (hF.setNew (Nat.le_refl _) hlW 0 _).setNew (Nat.le_refl _) hlW 1 _⟩)
      | false =>
        have ht : Hid (told q1 fn arg kk.key q2.e = { q1 with ran := putR q1.ran ⟨kk.key, fn, wrp arg, q2.e⟩ }) := by show _ = _; unfold told; rw [if_neg (by rw [hov]; decide)]
        obtain ⟨L', hL'⟩ : ∃ L', putR q1.ran ⟨kk.key, fn, wrp arg, q2.e⟩ = L' := ⟨_, rfl⟩
        have hpl : 0 < L'.length := by rw [← hL', putR_len]; omega
        rw [hL'] at ht
        rw [hov] at c10
        clear hov
        have c4 := mw.c4
        have f4 := mw.frozen 4
        have c25 := mt.c25
        have c26 := mt.c26
        have q := fun w => V1.refWrap_any arg w
        rw [v_wrap] at q
        have HP : Hid (∀ W, Below wc.heap.size wc W → Calls Tryd.prog 37 #[rv', .agg #[.int .i64 kk.key, .int .i64 fn, .int .i64 (wrp arg), .int .i64 q2.e.h, .int .i64 q2.e.v]] W fun e w' => ∃ gg cc, e = .returned (.slice (some ⟨gg, 0, none⟩) L'.length cc) ∧ Rh E w' rv' q1 ∧ w'.ownsRow E.W0.heap.size 60 5 (.slice (some ⟨gg, 0, none⟩) L'.length cc) L'.length (cellsR L') ∧ Below wc.heap.size wc w') := fun W hW => by
          have hwW := mw.below hW
          refine (put_any ⟨kk.key, fn, wrp arg, q2.e⟩ W hwW.ran HLN.out).mono ?_
          rintro e w' ⟨v', he, ho, hb⟩
          rw [hL'] at ho
          obtain ⟨gg, cc, rfl, -, -⟩ := ho.form hpl
          exact ⟨gg, cc, he, hwW.below hb, C2.owns_mono ho hwW.size, below_then hW hb⟩
        have HF : Hid (∀ w7 v', Rh E w7 rv' q1 → w7.ownsRow E.W0.heap.size 60 5 v' L'.length (cellsR L') → Below wc.heap.size wc w7 → Rh E (w7.setCell ⟨E.bw, 4, none⟩ v') v' (told q1 fn arg kk.key q2.e) ∧ Tr E (w7.setCell ⟨E.bw, 4, none⟩ v') bt q2 ∧ FrR E none w (w7.setCell ⟨E.bw, 4, none⟩ v') ∧ (w7.setCell ⟨E.bw, 4, none⟩ v').heap[w.heap.size]? = some (.cells #[.int .i64 0, .int .i64 0] 29 (0, 0))) := fun w7 v' h1 h2 h3 => by
          refine ⟨by rw [ht.out]; exact h1.setRan v' _ h2, (mt.below h3).setEx h1 (.inl rfl) 4 v', (hF.trans (FrR.of_below h3 mw.size)).setEx (.inl rfl) h1.lo 4 v', ?_⟩
          exact (Below.heap_setCell _ _ _ _ (by simp only; omega)).trans ((h3.block _ (lt_of_block hbx)).trans hbx)
        go_upto_region 14 with fail
        go_cut [] (fun wx => ∃ v2, Rh E wx v2 (told q1 fn arg kk.key q2.e) ∧ Tr E wx bt q2 ∧ FrR E none w wx ∧ wx.heap[w.heap.size]? = some (.cells #[.int .i64 0, .int .i64 0] 29 (0, 0)))
        case first =>
          go_region_law (first | (go_simp; go_at_call 35; refine (q _).mono ?_; rintro e w5 ⟨rfl, rfl⟩) | (go_simp; go_at_call 37; refine (HP.out _ (by first | exact Below.refl _ _ | exact (Below.refl _ _).drew)).mono ?_; rintro e w7 ⟨gg, cc, rfl, hw7, ho7, hb7⟩; have k4 := hw7.c4; have e4 := hw7.frozen 4; have HE := HF.out _ _ hw7 ho7 hb7))
          all_goals
            go_wp2_with fail
            go_meet
            first
              | exact ⟨_, HE.1, HE.2.1, HE.2.2.1, HE.2.2.2⟩
              | exact ⟨_, HE.1.drew, HE.2.1.drew, HE.2.2.1.drew, HE.2.2.2⟩
        case rest =>
        obtain ⟨v2, mw2, mt2, hF2, hbx2⟩ := hcut
        clear mw mt hF hbx HP HF c4 f4 c25 c26 c10 q hlo mf hS3 htr3
        have c25 := mt2.c25
        have c26 := mt2.c26
        have mw := mw2
        have hF := hF2
        have hbx := hbx2
        generalize wc = w8 at *
        rename_i wc8
        have b0 := cell_of_row _ _ 0 _ _ _ hbx
        have b1 := cell_of_row _ _ 1 _ _ _ hbx
        simp only [List.getElem?_toArray, List.getElem?_cons_zero, List.getElem?_cons_succ] at b0 b1
        have g0 := frozen_of_row _ _ 0 _ _ hbx
        have g1 := frozen_of_row _ _ 1 _ _ hbx
        go_wp2_with fail
        have hg2 : (w8.setCell ⟨w.heap.size, 0, none⟩ (.int .i64 q2.e.h)).heap[w.heap.size]? = some (.cells #[.int .i64 q2.e.h, .int .i64 0] 29 (0, 0)) := by rw [heap_setCell_same _ _ _ _ _ _ hbx]; rfl
        exact bodyPost_ret (v := endV q2.e) (by simp [results, Tryd.results26, go_sem, b0, b1]) rfl (HPO.out _ _ ⟨_, rfl, (mw.setOther hbx (by decide) (by decide) (by decide) (by decide) hlW 0 _).setOther hg2 (by decide) (by decide) (by decide) (by decide) hlW 1 _, (hF.setNew (Nat.le_refl _) hlW 0 _).setNew (Nat.le_refl _) hlW 1 _⟩)
/-- every task of the reference -/
theorem rtasks_all {E : Ev7} (hp : Ok7 E.p) (hM : E.M ≤ 20000) : ∀ n, RTaskOk E n := by
  intro n
  induction n using Nat.strongRecOn with
  | _ n ih => exact rtask_any hp hM ih
end Go.Proofs.YtpmapdialjdcbaaDoor
namespace Go.Proofs.YtpmapdialjdcbaaDoor
open Go.RowKit
open C2 (In Pr SlF SlI InsAt Tab BoxedP still_of_below below_then below_alloc Still)
open K6 (Ky)
open V5 (checkF SlN)

/-- what a run tells, plainly -/
structure Out7 where
  h : Int
  v : Int
  ran : List Rn
  futs : List Int
  was : List Bool
  st : Int
  fk : Int
  ov : Bool
  er : Int
def out7 (p : Pg7) (M : Nat) (arg : Int) : Out7 :=
  if checkF p ≠ 0 then ⟨0, 0, [], [], [], 0, 0, false, checkF p⟩
  else if (ev0 p M arg).1.over = true then ⟨0, 0, [], [], [], 0, 0, true, 0⟩
  else ⟨(ev0 p M arg).2.e.h, (ev0 p M arg).2.e.v, ran0 p M arg, (ev0 p M arg).1.futs, (ev0 p M arg).1.was, (ev0 p M arg).1.steps, (ev0 p M arg).1.forks, false, 0⟩
def RunOut (o : Out7) (w : World) (e : Ending) (w' : World) : Prop := ∃ rv uv sv, e = .returned (.tuple #[.agg #[.int .i64 o.h, .int .i64 o.v, rv, uv, sv, .int .i64 o.st, .int .i64 o.fk, .bool o.ov], .int .i64 o.er]) ∧ Below w.heap.size w w' ∧ SlR w' rv o.ran ∧ SlN w' uv o.futs ∧ SlB w' sv o.was
theorem run_out {p : Pg7} {arg most : Int} {w w' : World} {e : Ending} (h : RnPost p arg most w e w') : RunOut (out7 p (mostN most) arg) w e w' := by
  obtain ⟨hb, ⟨h1, he⟩ | ⟨h1, h2, he⟩ | ⟨h1, h2, rv, uv, sv, he, a, b, c⟩⟩ := h
  · refine ⟨.slice none 0 0, .slice none 0 0, .slice none 0 0, ?_, hb, ?_, ?_, ?_⟩ <;> rw [out7, if_pos h1]
    · exact he
    · exact ⟨none, 0, rfl, fun k hk => by simp at hk⟩
    · exact ⟨none, 0, rfl, fun k hk => by simp at hk⟩
    · exact ⟨none, 0, rfl, fun k hk => by simp at hk⟩
  · refine ⟨.slice none 0 0, .slice none 0 0, .slice none 0 0, ?_, hb, ?_, ?_, ?_⟩ <;> rw [out7, if_neg (by simp [h1]), if_pos h2]
    · exact he
    · exact ⟨none, 0, rfl, fun k hk => by simp at hk⟩
    · exact ⟨none, 0, rfl, fun k hk => by simp at hk⟩
    · exact ⟨none, 0, rfl, fun k hk => by simp at hk⟩
  · refine ⟨rv, uv, sv, ?_, hb, ?_, ?_, ?_⟩ <;> rw [out7, if_neg (by simp [h1]), if_neg (by simp [h2])]
    · exact he
    · exact a
    · exact b
    · exact c
def RefOut (o : Out7) (w : World) (e : Ending) (w' : World) : Prop := ∃ br rv uv sv, e = .returned (.tuple #[.agg #[.int .i64 o.h, .int .i64 o.v], .pointer (some ⟨br, 0, none⟩), .int .i64 o.er]) ∧ Below w.heap.size w w' ∧ SlR w' rv o.ran ∧ SlN w' uv o.futs ∧ SlB w' sv o.was ∧ br < w'.heap.size ∧
  w'.cell? ⟨br, 4, none⟩ = some rv ∧ w'.cell? ⟨br, 5, none⟩ = some uv ∧ w'.cell? ⟨br, 6, none⟩ = some sv ∧ w'.cell? ⟨br, 7, none⟩ = some (.int .i64 o.st) ∧ w'.cell? ⟨br, 8, none⟩ = some (.int .i64 o.fk) ∧ w'.cell? ⟨br, 10, none⟩ = some (.bool o.ov)
theorem rbegin {w1 wx : World} {p : Pg7} {M : Nat} {fv : Value} {gu gs bw m : Nat} (hF : SlF w1 fv p.fs) (hm : p.futs = m) (hb : Below w1.heap.size w1 wx) (h1 : w1.heap.size ≤ bw)
    (hbox : wx.heap[bw]? = some (.cells #[fv, .int .i64 m, .int .i64 p.depth, .int .i64 p.fuel, .slice none 0 0, .slice (some ⟨gu, 0, none⟩) m m, .slice (some ⟨gs, 0, none⟩) m m, .int .i64 0, .int .i64 0, .int .i64 M, .bool false] 43 (0, 0)))
    (hu : wx.ownsRow w1.heap.size 3 1 (.slice (some ⟨gu, 0, none⟩) m m) m (List.replicate m (.int .i64 0))) (hs : wx.ownsRow w1.heap.size 4 1 (.slice (some ⟨gs, 0, none⟩) m m) m (List.replicate m (.bool false))) :
    Rh ⟨w1, bw, p, M, fv, .slice (some ⟨gu, 0, none⟩) m m, .slice (some ⟨gs, 0, none⟩) m m⟩ wx (.slice none 0 0) (rs0 p) := by
  have hn : p.futs.toNat = m := by omega
  refine ⟨hb, h1, ?_, World.ownsRow_nil _ _ _ _, ?_, ?_, hF⟩
  · rw [hbox]
    simp only [rhC, rs0, hm]
    rfl
  · simp only [rs0, hn, List.length_replicate, List.map_replicate]
    exact hu
  · simp only [rs0, hn, List.length_replicate, List.map_replicate]
    exact hs
theorem rbegin_a {w1 : World} {p : Pg7} {M : Nat} {fv : Value} {m : Nat} (hF : SlF w1 fv p.fs) (hm : p.futs = m) (hm2 : m ≤ 16) :
    Rh ⟨w1, w1.heap.size + 1 + 1, p, M, fv, .slice (some ⟨w1.heap.size, 0, none⟩) m m, .slice (some ⟨w1.heap.size + 1, 0, none⟩) m m⟩ (((w1.alloc (.cells (madeCells #[.int .i64 0] m) 3)).alloc (.cells (madeCells #[.bool false] m) 4)).alloc (.cells #[fv, .int .i64 m, .int .i64 p.depth, .int .i64 p.fuel, .slice none 0 0, .slice (some ⟨w1.heap.size, 0, none⟩) m m, .slice (some ⟨w1.heap.size + 1, 0, none⟩) m m, .int .i64 0, .int .i64 0, .int .i64 M, .bool false] 43)).drew (.slice none 0 0) (rs0 p) ∧
    Below w1.heap.size w1 (((w1.alloc (.cells (madeCells #[.int .i64 0] m) 3)).alloc (.cells (madeCells #[.bool false] m) 4)).alloc (.cells #[fv, .int .i64 m, .int .i64 p.depth, .int .i64 p.fuel, .slice none 0 0, .slice (some ⟨w1.heap.size, 0, none⟩) m m, .slice (some ⟨w1.heap.size + 1, 0, none⟩) m m, .int .i64 0, .int .i64 0, .int .i64 M, .bool false] 43)).drew := by
  have hb := (below_alloc (below_alloc (below_alloc (Below.refl w1.heap.size w1) (.cells (madeCells #[.int .i64 0] m) 3)) (.cells (madeCells #[.bool false] m) 4)) (.cells #[fv, .int .i64 m, .int .i64 p.depth, .int .i64 p.fuel, .slice none 0 0, .slice (some ⟨w1.heap.size, 0, none⟩) m m, .slice (some ⟨w1.heap.size + 1, 0, none⟩) m m, .int .i64 0, .int .i64 0, .int .i64 M, .bool false] 43)).drew
  have z1 : (w1.alloc (.cells (madeCells #[.int .i64 0] m) 3)).heap.size = w1.heap.size + 1 := by simp
  have z2 : ((w1.alloc (.cells (madeCells #[.int .i64 0] m) 3)).alloc (.cells (madeCells #[.bool false] m) 4)).heap.size = w1.heap.size + 1 + 1 := by simp
  have hu := (((own_made w1 (.int .i64 0) m 3 (Nat.le_refl _) (by omega)).alloc (.cells (madeCells #[.bool false] m) 4)).alloc (.cells #[fv, .int .i64 m, .int .i64 p.depth, .int .i64 p.fuel, .slice none 0 0, .slice (some ⟨w1.heap.size, 0, none⟩) m m, .slice (some ⟨w1.heap.size + 1, 0, none⟩) m m, .int .i64 0, .int .i64 0, .int .i64 M, .bool false] 43))
  have hs := (own_made (w1.alloc (.cells (madeCells #[.int .i64 0] m) 3)) (.bool false) m 4 (B := w1.heap.size) (by omega) (by omega)).alloc (.cells #[fv, .int .i64 m, .int .i64 p.depth, .int .i64 p.fuel, .slice none 0 0, .slice (some ⟨w1.heap.size, 0, none⟩) m m, .slice (some ⟨w1.heap.size + 1, 0, none⟩) m m, .int .i64 0, .int .i64 0, .int .i64 M, .bool false] 43)
  have hx := heap_alloc_new ((w1.alloc (.cells (madeCells #[.int .i64 0] m) 3)).alloc (.cells (madeCells #[.bool false] m) 4)) (.cells #[fv, .int .i64 m, .int .i64 p.depth, .int .i64 p.fuel, .slice none 0 0, .slice (some ⟨w1.heap.size, 0, none⟩) m m, .slice (some ⟨w1.heap.size + 1, 0, none⟩) m m, .int .i64 0, .int .i64 0, .int .i64 M, .bool false] 43)
  rw [z2] at hx
  rw [z1] at hs
  exact ⟨rbegin hF hm hb (by omega) hx hu hs, hb⟩
theorem rbegin_b {w1 : World} {p : Pg7} {M : Nat} {fv : Value} {m : Nat} (hF : SlF w1 fv p.fs) (hm : p.futs = m) (hm2 : m ≤ 16) :
    Rh ⟨w1, w1.heap.size + 1 + 1, p, M, fv, .slice (some ⟨w1.heap.size + 1, 0, none⟩) m m, .slice (some ⟨w1.heap.size, 0, none⟩) m m⟩ (((w1.alloc (.cells (madeCells #[.bool false] m) 4)).alloc (.cells (madeCells #[.int .i64 0] m) 3)).alloc (.cells #[fv, .int .i64 m, .int .i64 p.depth, .int .i64 p.fuel, .slice none 0 0, .slice (some ⟨w1.heap.size + 1, 0, none⟩) m m, .slice (some ⟨w1.heap.size, 0, none⟩) m m, .int .i64 0, .int .i64 0, .int .i64 M, .bool false] 43)).drew (.slice none 0 0) (rs0 p) ∧
    Below w1.heap.size w1 (((w1.alloc (.cells (madeCells #[.bool false] m) 4)).alloc (.cells (madeCells #[.int .i64 0] m) 3)).alloc (.cells #[fv, .int .i64 m, .int .i64 p.depth, .int .i64 p.fuel, .slice none 0 0, .slice (some ⟨w1.heap.size + 1, 0, none⟩) m m, .slice (some ⟨w1.heap.size, 0, none⟩) m m, .int .i64 0, .int .i64 0, .int .i64 M, .bool false] 43)).drew := by
  have hb := (below_alloc (below_alloc (below_alloc (Below.refl w1.heap.size w1) (.cells (madeCells #[.bool false] m) 4)) (.cells (madeCells #[.int .i64 0] m) 3)) (.cells #[fv, .int .i64 m, .int .i64 p.depth, .int .i64 p.fuel, .slice none 0 0, .slice (some ⟨w1.heap.size + 1, 0, none⟩) m m, .slice (some ⟨w1.heap.size, 0, none⟩) m m, .int .i64 0, .int .i64 0, .int .i64 M, .bool false] 43)).drew
  have z1 : (w1.alloc (.cells (madeCells #[.bool false] m) 4)).heap.size = w1.heap.size + 1 := by simp
  have z2 : ((w1.alloc (.cells (madeCells #[.bool false] m) 4)).alloc (.cells (madeCells #[.int .i64 0] m) 3)).heap.size = w1.heap.size + 1 + 1 := by simp
  have hs := (((own_made w1 (.bool false) m 4 (Nat.le_refl _) (by omega)).alloc (.cells (madeCells #[.int .i64 0] m) 3)).alloc (.cells #[fv, .int .i64 m, .int .i64 p.depth, .int .i64 p.fuel, .slice none 0 0, .slice (some ⟨w1.heap.size + 1, 0, none⟩) m m, .slice (some ⟨w1.heap.size, 0, none⟩) m m, .int .i64 0, .int .i64 0, .int .i64 M, .bool false] 43))
  have hu := (own_made (w1.alloc (.cells (madeCells #[.bool false] m) 4)) (.int .i64 0) m 3 (B := w1.heap.size) (by omega) (by omega)).alloc (.cells #[fv, .int .i64 m, .int .i64 p.depth, .int .i64 p.fuel, .slice none 0 0, .slice (some ⟨w1.heap.size + 1, 0, none⟩) m m, .slice (some ⟨w1.heap.size, 0, none⟩) m m, .int .i64 0, .int .i64 0, .int .i64 M, .bool false] 43)
  have hx := heap_alloc_new ((w1.alloc (.cells (madeCells #[.bool false] m) 4)).alloc (.cells (madeCells #[.int .i64 0] m) 3)) (.cells #[fv, .int .i64 m, .int .i64 p.depth, .int .i64 p.fuel, .slice none 0 0, .slice (some ⟨w1.heap.size + 1, 0, none⟩) m m, .slice (some ⟨w1.heap.size, 0, none⟩) m m, .int .i64 0, .int .i64 0, .int .i64 M, .bool false] 43)
  rw [z2] at hx
  rw [z1] at hu
  exact ⟨rbegin hF hm hb (by omega) hx hu hs, hb⟩
theorem put2_box {w : World} {b : Nat} {T : TypeId} {x0 x1 : Value} (h : w.heap[b]? = some (.cells #[x0, x1] T (0, 0))) (v0 v1 : Value) : ((w.setCell ⟨b, 0, none⟩ v0).setCell ⟨b, 1, none⟩ v1).heap[b]? = some (.cells #[v0, v1] T (0, 0)) := by
  have h0 : (w.setCell ⟨b, 0, none⟩ v0).heap[b]? = some (.cells #[v0, x1] T (0, 0)) := by rw [heap_setCell_same _ _ _ _ _ _ h]; rfl
  rw [heap_setCell_same _ _ _ _ _ _ h0]; rfl
theorem put2_below {S : Nat} {a w : World} {b : Nat} (h : Below S a w) (hb : S ≤ b) (v0 v1 : Value) : Below S a ((w.setCell ⟨b, 0, none⟩ v0).setCell ⟨b, 1, none⟩ v1) := (h.setCell (p := ⟨b, 0, none⟩) hb v0).setCell (p := ⟨b, 1, none⟩) hb v1
theorem put2_size (w : World) (b : Nat) (v0 v1 : Value) : ((w.setCell ⟨b, 0, none⟩ v0).setCell ⟨b, 1, none⟩ v1).heap.size = w.heap.size := by simp [World.setCell]
theorem put2_other {w : World} {b k : Nat} (hk : k ≠ b) (v0 v1 : Value) : ((w.setCell ⟨b, 0, none⟩ v0).setCell ⟨b, 1, none⟩ v1).heap[k]? = w.heap[k]? := by rw [Below.heap_setCell _ _ _ _ hk, Below.heap_setCell _ _ _ _ hk]
theorem refOut_nil {w' : World} : SlR w' (.slice none 0 0) [] ∧ SlN w' (.slice none 0 0) [] ∧ SlB w' (.slice none 0 0) [] :=
  ⟨⟨none, 0, rfl, fun k hk => by simp at hk⟩, ⟨none, 0, rfl, fun k hk => by simp at hk⟩, ⟨none, 0, rfl, fun k hk => by simp at hk⟩⟩
theorem RRun_bad (p : Pg7) (fv : Value) (arg most : Int) (w : World) (hF : SlF w fv p.fs) (hn : p.fs.length ≤ 1000000) (hm : ∀ f ∈ p.fs, f.length ≤ 1000000) (hc : checkF p ≠ 0) :
    Calls Tryd.prog 14 #[.agg #[fv, .int .i64 p.futs, .int .i64 p.depth, .int .i64 p.fuel], .int .i64 arg, .int .i64 most] w fun e w' => RefOut (out7 p (mostN most) arg) w e w' := by
  obtain ⟨fa, fc, rfl, -⟩ := id hF
  have hB := BoxedP.made hF
  have hb := below_alloc (Below.refl w.heap.size w) (.cells #[.slice fa p.fs.length fc, .int .i64 p.futs, .int .i64 p.depth, .int .i64 p.fuel] 24)
  have hB2 := hB.kept (below_alloc (Below.refl _ _) (.cells #[.int .i64 0, .int .i64 0] 29))
  have hb2 := below_alloc hb (.cells #[.int .i64 0, .int .i64 0] 29)
  obtain ⟨c0, c1, c2, c3⟩ := hB2.cells
  have q := V5.RCheck_any p _ _ hB2.fns hn hm
  have e0 : (checkF p != 0) = true := by simpa using hc
  have HO : Hid (out7 p (mostN most) arg = ⟨0, 0, [], [], [], 0, 0, false, checkF p⟩) := by show _ = _; rw [out7, if_pos hc]
  clear hc
  obtain ⟨z, hz⟩ : ∃ z, checkF p = z := ⟨_, rfl⟩
  rw [hz] at q e0 HO
  clear hz
  go_enter Tryd.func14, Tryd.ntmps14
  go_wp2_with fail
  refine q.mono ?_
  rintro e w1 ⟨rfl, hb3⟩
  have hb4 := below_then hb2 hb3
  have hbox := (hb3.block (w.heap.size + 1) (by simp)).trans (heap_alloc2_new w (.cells #[.slice fa p.fs.length fc, .int .i64 p.futs, .int .i64 p.depth, .int .i64 p.fuel] 24) (.cells #[.int .i64 0, .int .i64 0] 29))
  have k0 := cell_of_row _ _ 0 _ _ _ hbox
  have k1 := cell_of_row _ _ 1 _ _ _ hbox
  simp only [List.getElem?_toArray, List.getElem?_cons_zero, List.getElem?_cons_succ] at k0 k1
  have kf := fun j => frozen_of_row _ _ j _ _ hbox
  have hlt := lt_of_block hbox
  clear q hB hB2 c0 c1 c2 c3
  go_wp2_with fail
  have hx2 := put2_box hbox (.int .i64 0) (.int .i64 0)
  have hl2 := put2_below hb4 (b := w.heap.size + 1) (by omega) (.int .i64 0) (.int .i64 0)
  have hz2 := put2_size w1 (w.heap.size + 1) (.int .i64 0) (.int .i64 0)
  generalize (w1.setCell ⟨w.heap.size + 1, 0, none⟩ (.int .i64 0)).setCell ⟨w.heap.size + 1, 1, none⟩ (.int .i64 0) = w2 at *
  have hx3 := (Below.heap_alloc w2 (.cells #[.slice none 0 0, .int .i64 0, .int .i64 0, .int .i64 0, .slice none 0 0, .slice none 0 0, .slice none 0 0, .int .i64 0, .int .i64 0, .int .i64 0, .bool false] 43) _ (lt_of_block hx2)).trans hx2
  have hr3 := heap_alloc_new w2 (.cells #[.slice none 0 0, .int .i64 0, .int .i64 0, .int .i64 0, .slice none 0 0, .slice none 0 0, .slice none 0 0, .int .i64 0, .int .i64 0, .int .i64 0, .bool false] 43)
  have hl3 := below_alloc hl2 (.cells #[.slice none 0 0, .int .i64 0, .int .i64 0, .int .i64 0, .slice none 0 0, .slice none 0 0, .slice none 0 0, .int .i64 0, .int .i64 0, .int .i64 0, .bool false] 43)
  rw [hz2] at hr3
  generalize w2.alloc (.cells #[.slice none 0 0, .int .i64 0, .int .i64 0, .int .i64 0, .slice none 0 0, .slice none 0 0, .slice none 0 0, .int .i64 0, .int .i64 0, .int .i64 0, .bool false] 43) = w3 at *
  have m0 : w3.cell? ⟨w.heap.size + 1, 0, none⟩ = some (.int .i64 0) := cell_of_row _ _ _ _ _ _ hx3
  have m1 : w3.cell? ⟨w.heap.size + 1, 1, none⟩ = some (.int .i64 0) := cell_of_row _ _ _ _ _ _ hx3
  have hn3 := refOut_nil (w' := w3)
  exact bodyPost_ret (v := .tuple #[.agg #[.int .i64 0, .int .i64 0], .pointer (some ⟨w1.heap.size, 0, none⟩), .int .i64 z]) (by simp [results, Tryd.results14, go_sem, m0, m1]) rfl (by rw [HO.out]; exact ⟨_, _, _, _, rfl, hl3, hn3.1, hn3.2.1, hn3.2.2, lt_of_block hr3, cell_of_row _ _ _ _ _ _ hr3, cell_of_row _ _ _ _ _ _ hr3, cell_of_row _ _ _ _ _ _ hr3, cell_of_row _ _ _ _ _ _ hr3, cell_of_row _ _ _ _ _ _ hr3, cell_of_row _ _ _ _ _ _ hr3⟩)
set_option maxHeartbeats 2000000 in
set_option maxRecDepth 8000 in
theorem RRun_ok (p : Pg7) (fv : Value) (arg most : Int) (w : World) (hF : SlF w fv p.fs) (hn : p.fs.length ≤ 1000000) (hm : ∀ f ∈ p.fs, f.length ≤ 1000000) (hc : checkF p = 0) :
    Calls Tryd.prog 14 #[.agg #[fv, .int .i64 p.futs, .int .i64 p.depth, .int .i64 p.fuel], .int .i64 arg, .int .i64 most] w fun e w' => RefOut (out7 p (mostN most) arg) w e w' := by
  have hp := ok_of_check hc
  obtain ⟨fa, fc, rfl, -⟩ := id hF
  have hB := BoxedP.made hF
  have hb := below_alloc (Below.refl w.heap.size w) (.cells #[.slice fa p.fs.length fc, .int .i64 p.futs, .int .i64 p.depth, .int .i64 p.fuel] 24)
  have hB2 := hB.kept (below_alloc (Below.refl _ _) (.cells #[.int .i64 0, .int .i64 0] 29))
  have hb2 := below_alloc hb (.cells #[.int .i64 0, .int .i64 0] 29)
  obtain ⟨c0, c1, c2, c3⟩ := hB2.cells
  have q := V5.RCheck_any p _ _ hB2.fns hn hm
  rw [hc] at q
  have HC : Hid (checkF p = 0) := hc
  obtain ⟨m, hfm⟩ : ∃ m : Nat, p.futs = m := ⟨p.futs.toNat, by have := hp.u0; omega⟩
  have hm16 : m ≤ 16 := by have := hp.u1; omega
  have hmk1 := fun w => run_make_row' (P := Tryd.prog) 31 3 (.int .i64 0) 8 Tryd.underlying31 infoInt7 rfl .i64 .i64 m (by omega) (by omega) w
  have hmk2 := fun w => run_make_row' (P := Tryd.prog) 32 4 (.bool false) 1 Tryd.underlying32 infoBool7 rfl .i64 .i64 m (by omega) (by omega) w
  clear hc
  have HFM : Hid (p.futs = m) := hfm
  clear hfm
  go_enter Tryd.func14, Tryd.ntmps14
  go_wp2_with fail
  refine q.mono ?_
  rintro e w1 ⟨rfl, hb3⟩
  have hb4 := below_then hb2 hb3
  have hbox := (hb3.block (w.heap.size + 1) (by simp)).trans (heap_alloc2_new w (.cells #[.slice fa p.fs.length fc, .int .i64 p.futs, .int .i64 p.depth, .int .i64 p.fuel] 24) (.cells #[.int .i64 0, .int .i64 0] 29))
  have hB3 := hB2.kept hb3
  obtain ⟨k0, k1, k2, k3⟩ := hB3.cells
  rw [HFM.out] at k1
  have hsz1 : w.heap.size + 2 ≤ w1.heap.size := by have := hb3.size; simp at this; omega
  have hlt0 : w.heap.size < w1.heap.size := by omega
  have hlt1 : w.heap.size + 1 < w1.heap.size := by omega
  clear q hB hB2 c0 c1 c2 c3
  have hmo := most_eq most
  have HFN : Hid (SlF w1 (.slice fa p.fs.length fc) p.fs) := hB3.fns
  obtain ⟨M, hMe⟩ : ∃ M, mostN most = M := ⟨_, rfl⟩
  have hM20 : M ≤ 20000 := by rw [← hMe]; exact most_le most
  rw [hMe] at hmo
  have HMO : Hid (mostN most = M) := hMe
  clear hMe
  go_upto_region 4 with fail
  go_cut [10] (fun v9 wx => ∃ bw gu gs, v9 = .pointer (some ⟨bw, 0, none⟩) ∧ Rh ⟨w1, bw, p, M, .slice fa p.fs.length fc, .slice (some ⟨gu, 0, none⟩) m m, .slice (some ⟨gs, 0, none⟩) m m⟩ wx (.slice none 0 0) (rs0 p) ∧ Below w1.heap.size w1 wx)
  case first =>
    have hA := rbegin_a (M := M) HFN.out HFM.out hm16
    have hBb := rbegin_b (M := M) HFN.out HFM.out hm16
    have HA : Hid (∃ bw gu gs, (.pointer (some ⟨w1.heap.size + 1 + 1, 0, none⟩) : Value) = .pointer (some ⟨bw, 0, none⟩) ∧ Rh ⟨w1, bw, p, M, .slice fa p.fs.length fc, .slice (some ⟨gu, 0, none⟩) m m, .slice (some ⟨gs, 0, none⟩) m m⟩ _ (.slice none 0 0) (rs0 p) ∧ Below w1.heap.size w1 _) := ⟨_, _, _, rfl, hA.1, hA.2⟩
    have HBb : Hid (∃ bw gu gs, (.pointer (some ⟨w1.heap.size + 1 + 1, 0, none⟩) : Value) = .pointer (some ⟨bw, 0, none⟩) ∧ Rh ⟨w1, bw, p, M, .slice fa p.fs.length fc, .slice (some ⟨gu, 0, none⟩) m m, .slice (some ⟨gs, 0, none⟩) m m⟩ _ (.slice none 0 0) (rs0 p) ∧ Below w1.heap.size w1 _) := ⟨_, _, _, rfl, hBb.1, hBb.2⟩
    clear hA hBb
    go_region
    all_goals
      go_wp2_with fail
    all_goals
      go_meet
      first | exact HA.out | exact HBb.out
  case rest =>
    obtain ⟨bw, gu, gs, rfl, hwx, hbx⟩ := hcut
    have hrun := rtasks_all (E := ⟨w1, bw, p, M, .slice fa p.fs.length fc, .slice (some ⟨gu, 0, none⟩) m m, .slice (some ⟨gs, 0, none⟩) m m⟩) hp hM20 M wc (.slice none 0 0) (rs0 p) K6.root 0 arg hwx (root_st hp arg) rfl (by simp [rs0]) (by simp [rs0]) (by show M - 0 ≤ M; omega) (by show 0 ≤ M; omega)
    rw [K6.key_root] at hrun
    have HO1 : Hid ((ev0 p M arg).1.over = true → out7 p (mostN most) arg = ⟨0, 0, [], [], [], 0, 0, true, 0⟩) := fun h => by rw [HMO.out, out7, if_neg (by rw [HC.out]; decide), if_pos h]
    have HO2 : Hid ((ev0 p M arg).1.over = false → out7 p (mostN most) arg = ⟨(ev0 p M arg).2.e.h, (ev0 p M arg).2.e.v, putR (ev0 p M arg).1.ran ⟨1125899906842624, 0, wrp arg, (ev0 p M arg).2.e⟩, (ev0 p M arg).1.futs, (ev0 p M arg).1.was, (ev0 p M arg).1.steps, (ev0 p M arg).1.forks, false, 0⟩) := fun h => by rw [HMO.out, out7, if_neg (by rw [HC.out]; decide), if_neg (by rw [h]; decide)]; rfl
    have HRUN0 : Hid (Calls Tryd.prog 26 #[.pointer (some ⟨bw, 0, none⟩), .int .i64 0, .int .i64 arg, .int .i64 1125899906842624] wc fun e w' => ∃ rv', e = .returned (endV (ev0 p M arg).2.e) ∧ Rh ⟨w1, bw, p, M, .slice fa p.fs.length fc, .slice (some ⟨gu, 0, none⟩) m m, .slice (some ⟨gs, 0, none⟩) m m⟩ w' rv' (told (ev0 p M arg).1 0 arg 1125899906842624 (ev0 p M arg).2.e)) := hrun.mono fun e w' ⟨rv', he, hw, _⟩ => ⟨rv', he, hw⟩
    clear hrun hB3 hp hn hm hwx k0 k1 k2 k3 hmk1 hmk2 hmo
    generalize ev0 p M arg = q at *
    obtain ⟨q1, q2⟩ := q
    have HRUN : Hid (Calls Tryd.prog 26 #[.pointer (some ⟨bw, 0, none⟩), .int .i64 0, .int .i64 arg, .int .i64 1125899906842624] wc fun e w' => ∃ rv', e = .returned (.agg #[.int .i64 q2.e.h, .int .i64 q2.e.v]) ∧ Rh ⟨w1, bw, p, M, .slice fa p.fs.length fc, .slice (some ⟨gu, 0, none⟩) m m, .slice (some ⟨gs, 0, none⟩) m m⟩ w' rv' (told q1 0 arg 1125899906842624 q2.e)) := HRUN0.out
    clear HRUN0
    go_wp2_with fail
    refine HRUN.out.mono ?_
    rintro e w3 ⟨rv', rfl, hw3⟩
    have hw4 := hw3.alloc (.cells #[.int .i64 q2.e.h, .int .i64 q2.e.v] 29)
    have hb5 : Below w.heap.size w (w3.alloc (.cells #[.int .i64 q2.e.h, .int .i64 q2.e.v] 29)) := hb4.trans (hw4.base.mono hb4.size)
    have hox := (hw4.base.block (w.heap.size + 1) hlt1).trans hbox
    have hen := heap_alloc_new w3 (.cells #[.int .i64 q2.e.h, .int .i64 q2.e.v] 29)
    have k0 := cell_of_row _ _ 0 _ _ _ hox
    have k1 := cell_of_row _ _ 1 _ _ _ hox
    simp only [List.getElem?_toArray, List.getElem?_cons_zero, List.getElem?_cons_succ] at k0 k1
    have kf0 := frozen_of_row _ _ 0 _ _ hox
    have kf1 := frozen_of_row _ _ 1 _ _ hox
    have c10 := hw4.c10
    have hS : (told q1 0 arg 1125899906842624 q2.e).over = q1.over := (told_steps _ _ _ _ _).2
    rw [hS] at c10
    have hlt5 := lt_of_block hox
    have HSL : Hid (∀ w', (∀ k, k ≠ w.heap.size + 1 → w'.heap[k]? = (w3.alloc (.cells #[.int .i64 q2.e.h, .int .i64 q2.e.v] 29)).heap[k]?) → SlR w' rv' (told q1 0 arg 1125899906842624 q2.e).ran ∧ SlN w' (.slice (some ⟨gu, 0, none⟩) m m) (told q1 0 arg 1125899906842624 q2.e).futs ∧ SlB w' (.slice (some ⟨gs, 0, none⟩) m m) (told q1 0 arg 1125899906842624 q2.e).was ∧ w'.heap[bw]? = some (.cells (rhC ⟨w1, bw, p, M, .slice fa p.fs.length fc, .slice (some ⟨gu, 0, none⟩) m m, .slice (some ⟨gs, 0, none⟩) m m⟩ rv' (told q1 0 arg 1125899906842624 q2.e)) 43 (0, 0))) := fun w' h => by
      refine ⟨own_slR (own_same7 (w' := w') hw4.ran fun g hg => h g (by have := (hw4.ran.lt g hg).1; simp only at this; omega)), own_slN7 (own_same7 (w' := w') hw4.fut fun g hg => h g (by have := (hw4.fut.lt g hg).1; simp only at this; omega)), own_slB (own_same7 (w' := w') hw4.was fun g hg => h g (by have := (hw4.was.lt g hg).1; simp only at this; omega)), ?_⟩
      have := hw4.lo
      exact (h bw (by simp only at this; omega)).trans hw4.box
    clear hw3 hS HRUN hbox hb4 hbx
    go_upto_region 6 with fail
    generalize w3.alloc (.cells #[.int .i64 q2.e.h, .int .i64 q2.e.v] 29) = w4 at *
    generalize w3.heap.size = b4 at *
    have e0 : w4.cell? ⟨b4, 0, none⟩ = some (.int .i64 q2.e.h) := cell_of_row _ _ _ _ _ _ hen
    have e1 : w4.cell? ⟨b4, 1, none⟩ = some (.int .i64 q2.e.v) := cell_of_row _ _ _ _ _ _ hen
    clear hw4 hen
    cases hov : q1.over with
    | true =>
      have HO := HO1.out hov
      have HOO : Hid (out7 p (mostN most) arg = ⟨0, 0, [], [], [], 0, 0, true, 0⟩) := HO
      rw [hov] at c10
      clear hov HO HO1 HO2
      go_wp2_with fail
      have hx2 := put2_box hox (.int .i64 0) (.int .i64 0)
      have hl2 := put2_below hb5 (b := w.heap.size + 1) (by omega) (.int .i64 0) (.int .i64 0)
      have hz2 := put2_size w4 (w.heap.size + 1) (.int .i64 0) (.int .i64 0)
      generalize (w4.setCell ⟨w.heap.size + 1, 0, none⟩ (.int .i64 0)).setCell ⟨w.heap.size + 1, 1, none⟩ (.int .i64 0) = w5 at *
      have hx3 := (Below.heap_alloc w5 (.cells #[.slice none 0 0, .int .i64 0, .int .i64 0, .int .i64 0, .slice none 0 0, .slice none 0 0, .slice none 0 0, .int .i64 0, .int .i64 0, .int .i64 0, .bool true] 43) _ (lt_of_block hx2)).trans hx2
      have hr3 := heap_alloc_new w5 (.cells #[.slice none 0 0, .int .i64 0, .int .i64 0, .int .i64 0, .slice none 0 0, .slice none 0 0, .slice none 0 0, .int .i64 0, .int .i64 0, .int .i64 0, .bool true] 43)
      have hl3 := below_alloc hl2 (.cells #[.slice none 0 0, .int .i64 0, .int .i64 0, .int .i64 0, .slice none 0 0, .slice none 0 0, .slice none 0 0, .int .i64 0, .int .i64 0, .int .i64 0, .bool true] 43)
      rw [hz2] at hr3
      generalize w5.alloc (.cells #[.slice none 0 0, .int .i64 0, .int .i64 0, .int .i64 0, .slice none 0 0, .slice none 0 0, .slice none 0 0, .int .i64 0, .int .i64 0, .int .i64 0, .bool true] 43) = w6 at *
      have m0 : w6.cell? ⟨w.heap.size + 1, 0, none⟩ = some (.int .i64 0) := cell_of_row _ _ _ _ _ _ hx3
      have m1 : w6.cell? ⟨w.heap.size + 1, 1, none⟩ = some (.int .i64 0) := cell_of_row _ _ _ _ _ _ hx3
      have hn3 := refOut_nil (w' := w6)
      exact bodyPost_ret (v := .tuple #[.agg #[.int .i64 0, .int .i64 0], .pointer (some ⟨w4.heap.size, 0, none⟩), .int .i64 0]) (by simp [results, Tryd.results14, go_sem, m0, m1]) rfl (by rw [HOO.out]; exact ⟨_, _, _, _, rfl, hl3, hn3.1, hn3.2.1, hn3.2.2, lt_of_block hr3, cell_of_row _ _ _ _ _ _ hr3, cell_of_row _ _ _ _ _ _ hr3, cell_of_row _ _ _ _ _ _ hr3, cell_of_row _ _ _ _ _ _ hr3, cell_of_row _ _ _ _ _ _ hr3, cell_of_row _ _ _ _ _ _ hr3⟩)
    | false =>
      have HO := HO2.out hov
      try simp only at HO
      have HOO : Hid (out7 p (mostN most) arg = _) := HO
      have ht : told q1 0 arg 1125899906842624 q2.e = { q1 with ran := putR q1.ran ⟨1125899906842624, 0, wrp arg, q2.e⟩ } := by unfold told; rw [if_neg (by rw [hov]; decide)]
      rw [ht] at HSL
      rw [hov] at c10
      clear HO HO1 HO2 ht
      go_wp2_with fail
      have hx2 := put2_box hox (.int .i64 q2.e.h) (.int .i64 q2.e.v)
      have hl2 := put2_below hb5 (b := w.heap.size + 1) (by omega) (.int .i64 q2.e.h) (.int .i64 q2.e.v)
      obtain ⟨s1, s2, s3, s4⟩ := HSL.out _ fun k hk => put2_other hk (.int .i64 q2.e.h) (.int .i64 q2.e.v)
      generalize (w4.setCell ⟨w.heap.size + 1, 0, none⟩ (.int .i64 q2.e.h)).setCell ⟨w.heap.size + 1, 1, none⟩ (.int .i64 q2.e.v) = w5 at *
      have m0 : w5.cell? ⟨w.heap.size + 1, 0, none⟩ = some (.int .i64 q2.e.h) := cell_of_row _ _ _ _ _ _ hx2
      have m1 : w5.cell? ⟨w.heap.size + 1, 1, none⟩ = some (.int .i64 q2.e.v) := cell_of_row _ _ _ _ _ _ hx2
      exact bodyPost_ret (v := .tuple #[.agg #[.int .i64 q2.e.h, .int .i64 q2.e.v], .pointer (some ⟨bw, 0, none⟩), .int .i64 0]) (by simp [results, Tryd.results14, go_sem, m0, m1]) rfl (by rw [HOO.out]; exact ⟨bw, _, _, _, rfl, hl2, s1, s2, s3, lt_of_block s4, cell_of_row _ _ _ _ _ _ s4, cell_of_row _ _ _ _ _ _ s4, cell_of_row _ _ _ _ _ _ s4, cell_of_row _ _ _ _ _ _ s4, cell_of_row _ _ _ _ _ _ s4, by rw [cell_of_row _ _ _ _ _ _ s4]; show some (Value.bool q1.over) = _; rw [hov]⟩)
theorem RRun_any (p : Pg7) (fv : Value) (arg most : Int) (w : World) (hF : SlF w fv p.fs) (hn : p.fs.length ≤ 1000000) (hm : ∀ f ∈ p.fs, f.length ≤ 1000000) :
    Calls Tryd.prog 14 #[.agg #[fv, .int .i64 p.futs, .int .i64 p.depth, .int .i64 p.fuel], .int .i64 arg, .int .i64 most] w fun e w' => RefOut (out7 p (mostN most) arg) w e w' := by
  by_cases hc : checkF p = 0
  · exact RRun_ok p fv arg most w hF hn hm hc
  · exact RRun_bad p fv arg most w hF hn hm hc
end Go.Proofs.YtpmapdialjdcbaaDoor
