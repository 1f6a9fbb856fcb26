/-
  Helpers: EvU, EvV, RxM, RxA1.
-/
import Derived.Test.YtpmapdialjdcbaaDoorBunda7240e9c430
import Derived.Deep.DeepCutAuto
import Derived.Deep.CutBlock
import Derived.Test.YtpmapdialjdcbaaDoorBund9599332a1f5
namespace Go.Proofs.YtpmapdialjdcbaaDoor
open Go.RowKit
open C2 (In Pr SlF SlI InsAt still_of_below below_then)
open K6 (Ky)

structure Mt (d : Wd) (r : Rs) : Prop where
  fu : d.fu = r.futs
  ws : d.ws = r.was
  st : d.st = r.steps
  fk : d.fk = r.forks
structure Bd (d : Wd) : Prop where
  c : d.C.length ≤ d.st + 1
  k : d.fk ≤ d.st
abbrev endV (e : En) : Value := .agg #[.int .i64 e.h, .int .i64 e.v]
/-- what is known of the whole behind a task: as the evaluator says, or over -/
def Was7 (E : Ev7) (n : Nat) (d : Wd) (r : Rs) (fn : Nat) (arg k : Int) (en : En) (d' : Wd) : Prop :=
  ((ev7 E.p E.M r (ts0 fn arg k E.p.fuel.toNat)).1.over = false ∧ en = (ev7 E.p E.M r (ts0 fn arg k E.p.fuel.toNat)).2.e ∧ Mt d' (told (ev7 E.p E.M r (ts0 fn arg k E.p.fuel.toNat)).1 fn arg k (ev7 E.p E.M r (ts0 fn arg k E.p.fuel.toNat)).2.e) ∧ ∃ Z, d'.C = d.C ++ Z ∧ (told (ev7 E.p E.M r (ts0 fn arg k E.p.fuel.toNat)).1 fn arg k (ev7 E.p E.M r (ts0 fn arg k E.p.fuel.toNat)).2.e).ran = r.ran ++ Z) ∨
  ((ev7 E.p E.M r (ts0 fn arg k E.p.fuel.toNat)).1.over = true ∧ E.M < d'.st ∧ d'.st ≤ E.M + 1 + n ∧ d.C.length ≤ d'.C.length)
def RunPost (E : Ev7) (n : Nat) (w : World) (d : Wd) (r : Rs) (fn : Nat) (arg k : Int) (e : Ending) (w' : World) : Prop :=
  ∃ en d', e = .returned (endV en) ∧ Wh E w' d' ∧ Fr7 E none w w' ∧ Bd d' ∧ Was7 E n d r fn arg k en d'
def RunsOk (E : Ev7) (n : Nat) : Prop := ∀ (w : World) (d : Wd) (r : Rs) (kk : Ky) (fn : Nat) (arg : Int), Wh E w d → St7 E.p r (ts0 fn arg kk.key E.p.fuel.toNat) kk → r.over = false → Mt d r → d.C.length ≤ d.st → d.fk ≤ d.st → wrp arg = arg → (∀ x ∈ r.ran, x.key < kk.key) → E.M - r.steps ≤ n → r.steps ≤ E.M →
  Calls Tryd.prog 22 #[.pointer (some ⟨E.bw, 0, none⟩), .int .i64 kk.key, .int .i64 fn, .int .i64 arg] w fun e w' => RunPost E n w d r fn arg kk.key e w'
theorem forkT_hd (t : Ts) (hh : t.has.length = 4) (hn : t.hand.length = 4) {i : Nat} (hi : i < 4) (e : En) (j : Nat) : hdE (forkT t i e) j = if i = j then e else hdE t j := by
  have h := hdE_set t (i := i) (by omega) (by omega) true e j (forkT t i e) rfl rfl
  simpa using h
def FkPost (E : Ev7) (n bt : Nat) (cv : Value) (w : World) (d : Wd) (r : Rs) (t : Ts) (a b c : Nat) (e : Ending) (w' : World) : Prop :=
  if E.p.depth ≤ depK t.key then Sp E bt cv w d ((down1 t).ends 6) e w' else if 1000 ≤ t.forks then Sp E bt cv w d ((down1 t).ends 9) e w' else
  ∃ en d', e = .returned (.tuple #[]) ∧ Wh E w' d' ∧ Tk7 E w' bt cv (forkT (down1 t) a en) ∧ Fr7 E (some bt) w w' ∧ Bd d' ∧ Was7 E n d (forkR (up1 r)) b (rg t c) (kidK chY t) en d'
theorem FkPost.deep {E : Ev7} {n bt : Nat} {cv : Value} {w : World} {d : Wd} {r : Rs} {t t1 : Ts} {a b c : Nat} {e : Ending} {w' : World} (h1 : t1 = down1 t) (h : E.p.depth ≤ depK t.key) (hs : Sp E bt cv w d (t1.ends 6) e w') : FkPost E n bt cv w d r t a b c e w' := by
  unfold FkPost
  rw [if_pos h, ← h1]
  exact hs
theorem FkPost.many {E : Ev7} {n bt : Nat} {cv : Value} {w : World} {d : Wd} {r : Rs} {t t1 : Ts} {a b c : Nat} {e : Ending} {w' : World} (h1 : t1 = down1 t) (h : ¬ E.p.depth ≤ depK t.key) (hf : 1000 ≤ t.forks) (hs : Sp E bt cv w d (t1.ends 9) e w') : FkPost E n bt cv w d r t a b c e w' := by
  unfold FkPost
  rw [if_neg h, if_pos hf, ← h1]
  exact hs
theorem FkPost.kid {E : Ev7} {n bt : Nat} {cv : Value} {w : World} {d : Wd} {r : Rs} {t t1 : Ts} {a b c : Nat} {w' : World} (h1 : t1 = down1 t) (h : ¬ E.p.depth ≤ depK t.key) (hf : ¬ 1000 ≤ t.forks) {en : En} {d' : Wd} (k1 : Wh E w' d') (k2 : Tk7 E w' bt cv (forkT t1 a en)) (k3 : Fr7 E (some bt) w w') (k4 : Bd d') (k5 : Was7 E n d (forkR (up1 r)) b (rg t c) (kidK chY t) en d') : FkPost E n bt cv w d r t a b c (.returned (.tuple #[])) w' := by
  unfold FkPost
  rw [if_neg h, if_neg hf, ← h1]
  exact ⟨en, d', rfl, k1, k2, k3, k4, k5⟩
set_option maxHeartbeats 2000000 in
/-- a fork, wherever it leads -/
theorem fork_any {E : Ev7} (hp : Ok7 E.p) {n : Nat} (ih : RunsOk E n) {w : World} {d : Wd} {bt : Nat} {cv : Value} {r : Rs} {t t1 : Ts} {tk : Ky} (hM : E.M ≤ 20000) (h1 : t1 = down1 t) (hw : Wh E w d) (ht : Tk7 E w bt cv t1) (h : St7 E.p r t tk) (hg : goesB E.M r t) (hm : Mt d (up1 r)) (hb1 : d.C.length ≤ d.st) (hb2 : d.fk + 1 ≤ d.st) (hn : E.M - (r.steps + 1) ≤ n)
    (h9 : (ins7 E.p t).o = 9) {a b c : Nat} (ha : (ins7 E.p t).a = a) (hb : (ins7 E.p t).b = b) (hc : (ins7 E.p t).c = c) (ha4 : a < 4) (hc8 : c < 8) :
    Calls Tryd.prog 70 #[.pointer (some ⟨bt, 0, none⟩), .int .i64 a, .int .i64 b, .int .i64 c] w fun e w' => FkPost E n bt cv w d r t a b c e w' := by
  have hkey : t1.key = tk.key := by rw [h1]; exact h.key
  have hfk : t1.forks = t.forks := by rw [h1]; rfl
  have hreg : t1.reg = t.reg := by rw [h1]; rfl
  have he : t1.e = en0 := by
    rw [h1]
    show t.e = en0
    have h0 := hg.1
    rcases h.tok.e with ⟨-, h2⟩ | h2
    · cases hte : t.e with | mk x y => rw [hte] at h0 h2; simp only at h0 h2; rw [h0, h2]; rfl
    · have := h2.1; omega
  have hdk : depK t.key = tk.dep := by unfold depK; rw [h.key, K6.of_key h.ok]
  have hE6 : (t1.ends 6).e = ⟨6, 0⟩ := by rw [Ts.ends, he]; rfl
  have hE9 : (t1.ends 9).e = ⟨9, 0⟩ := by rw [Ts.ends, he]; rfl
  have hdp := h.dep
  have hd5 := hp.d5
  have hfks := h.fk
  have HD : Hid (∀ w, Calls Tryd.prog 87 #[.int .i64 t1.key] w fun e w' => e = .returned (.int .i64 tk.dep) ∧ Below w.heap.size w w') := fun w => by
    have h := K6.Depth_any t1.key (by rw [hkey]; have := K6.key_bd h.ok; unfold K6.inI; omega) w
    rw [hkey, K6.dp_key ‹St7 E.p r t tk›.ok] at h
    rw [hkey]
    exact h
  have HK : Hid (∀ w f', f' = (t.forks : Int) + 1 → Calls Tryd.prog 88 #[.int .i64 t1.key, .int .i64 f'] w fun e w' => e = .returned (.tuple #[.int .i64 (K6.chK tk.key (t.forks + 1)), .bool (K6.chO tk.key (t.forks + 1))]) ∧ Below w.heap.size w w') := fun w f' e => by
    have h := K6.Child_any t1.key (t.forks + 1) (by rw [hkey]; have := K6.key_bd h.ok; unfold K6.inI; omega) w
    unfold K6.ChPost at h
    rw [hkey] at h
    rw [hkey, e]
    exact h
  have HC : Hid (∀ w', Below w.heap.size w w' → w'.cell? ⟨bt, 0, none⟩ = some (.pointer (some ⟨E.bw, 0, none⟩)) ∧ w'.cell? ⟨E.bw, 2, none⟩ = some (.int .i64 E.p.depth) ∧ w'.cell? ⟨bt, 1, none⟩ = some (.int .i64 t1.key) ∧ w'.cell? ⟨bt, 5, none⟩ = some (.int .i64 t.forks) ∧ w'.cell? ⟨E.bw, 6, none⟩ = some (.int .i64 d.fk)) := fun w' hb => by
    have c0 := (ht.below hb).cellAt 0
    have c1 := (ht.below hb).cellAt 1
    have c5 := (ht.below hb).cellAt 5
    have c2 := (hw.below hb).cellsAt 2
    have c6 := (hw.below hb).cellsAt 6
    simp [tkC, Wd.box] at c0 c1 c2 c5 c6
    exact ⟨c0, c2, c1, by rw [c5, hfk], c6⟩
  obtain ⟨c0, c2, c1, c5, c6⟩ := HC.out w (Below.refl _ _)
  have HR : Hid (t1.reg = t.reg) := hreg
  have HS : Hid (St7 E.p r t tk) := h
  have HG : Hid (goesB E.M r t) := hg
  have HT1 : Hid (t1 = down1 t) := h1
  have H9 : Hid ((ins7 E.p t).o = 9 ∧ (ins7 E.p t).a = a ∧ (ins7 E.p t).b = b ∧ (ins7 E.p t).c = c) := ⟨h9, ha, hb, hc⟩
  have HKEY : Hid (t1.key = tk.key) := hkey
  have HE : Hid (t1.e = en0) := he
  have HDK : Hid (depK t.key = tk.dep) := hdk
  have HFK : Hid (t1.forks = t.forks) := hfk
  have HE6 : Hid ((t1.ends 6).e = ⟨6, 0⟩) := hE6
  have HE9 : Hid ((t1.ends 9).e = ⟨9, 0⟩) := hE9
  have HM : Hid (Mt d (up1 r)) := hm
  clear hkey hfk hreg he hdk hE6 hE9 h hg h1 h9 ha hb hc hm
  go_enter Tryd.func70, Tryd.ntmps70
  go_upto_region 0 with fail
  go_cut [23] (fun v wx => v = .bool (decide ((tk.dep : Int) = E.p.depth)) ∧ Below w.heap.size w wx)
  case first =>
    go_region_law (go_simp; go_at_call 87; refine (HD.out _).mono ?_; rintro e w1 ⟨rfl, hb1⟩; obtain ⟨d0, d2, -, -, -⟩ := HC.out w1 (below_then (Below.refl _ _).drew hb1))
    all_goals
      go_wp2_with fail
      go_meet
      exact ⟨congrArg Value.bool (Bool.beq_eq_decide_eq _ _), below_then (Below.refl _ _).drew hb1⟩
  case rest =>
    obtain ⟨rfl, hbc⟩ := hcut
    by_cases hdd : (tk.dep : Int) = E.p.depth
    · have e1 : decide ((tk.dep : Int) = E.p.depth) = true := by simpa using hdd
      rw [e1]
      clear e1
      go_wp2_with fail
      refine (stop_any _ _ _).mono ?_
      rintro e w' ⟨rfl, rfl⟩
      go_wp2_with fail
      refine ⟨rfl, FkPost.deep HT1.out (by rw [HDK.out]; omega) ?_⟩
      exact ⟨.inr ⟨by rw [HE6.out]; decide, by rw [HE6.out]⟩, hw.below hbc, Fr7.of_below hbc hw.size⟩
    · have e1 : decide ((tk.dep : Int) = E.p.depth) = false := by simpa using hdd
      rw [e1]
      clear e1
      obtain ⟨a0, a2, a1, a5, a6⟩ := HC.out wc hbc
      clear c0 c2 c1 c5 c6
      have hwr : IntKind.i64.wrap ((t.forks : Int) + 1) = (t.forks : Int) + 1 := by simp [IntKind.wrap, IntKind.bits, IntKind.signed]; omega
      go_upto_region 2 with fail
      go_cut [8, 9] (fun v8 v9 wx => v8 = .int .i64 (K6.chK tk.key (t.forks + 1)) ∧ v9 = .bool (K6.chO tk.key (t.forks + 1)) ∧ Below w.heap.size w wx)
      case first =>
        go_region_law (go_simp; go_at_call 88; refine (HK.out _ _ (by first | omega | exact hwr)).mono ?_; rintro e w1 ⟨rfl, hb1⟩)
        all_goals
          go_wp2_with fail
          go_meet
          exact ⟨rfl, rfl, below_then hbc.drew hb1⟩
      case rest =>
        obtain ⟨rfl, rfl, hbd⟩ := hcut
        have hok := HS.out.ok
        have hno : Hid (¬ E.p.depth ≤ depK t.key) := by show ¬ _; rw [HDK.out]; omega
        by_cases hff : 1000 ≤ t.forks
        · have e1 : K6.chO tk.key (t.forks + 1) = false := by rw [K6.chO_key hok]; simp; omega
          rw [e1]
          clear e1
          go_wp2_with fail
          refine (stop_any _ _ _).mono ?_
          rintro e w' ⟨rfl, rfl⟩
          go_wp2_with fail
          refine ⟨rfl, FkPost.many HT1.out (by have := hno.out; omega) hff ?_⟩
          exact ⟨.inr ⟨by rw [HE9.out]; decide, by rw [HE9.out]⟩, hw.below hbd, Fr7.of_below hbd hw.size⟩
        · have e1 : K6.chO tk.key (t.forks + 1) = true := by rw [K6.chO_key hok]; simp; omega
          have e2 : K6.chK tk.key (t.forks + 1) = kidK chY t := by
            rw [K6.chK_key hok (by omega) (by omega) (by omega)]
            unfold kidK chY
            rw [HS.out.key, K6.of_key hok]
          rw [e1, e2]
          clear e1 e2
          obtain ⟨b0, b2, b1, b5, b6⟩ := HC.out _ hbd
          have hwd := hw.below hbd
          have htd := ht.below hbd
          have fz5 := htd.frozen 5
          have fz6 := hwd.frozen 6
          have ne1 : E.bw ≠ bt := fun e => htd.notEx hwd (.inl e.symm)
          have ne2 : bt ≠ E.bw := fun e => ne1 e.symm
          have ht4 := htd.setForks (t.forks + 1)
          have hw4 := hwd.setT htd 5 (.int .i64 ((t.forks + 1 : Nat) : Int))
          have ht5 := ht4.setEx hw4 (.inl rfl) 6 (.int .i64 ((d.fk + 1 : Nat) : Int))
          have hw5 := hw4.setFk (d.fk + 1)
          have hF5 : Fr7 E (some bt) w ((wc.setCell ⟨bt, 5, none⟩ (.int .i64 ((t.forks + 1 : Nat) : Int))).setCell ⟨E.bw, 6, none⟩ (.int .i64 ((d.fk + 1 : Nat) : Int))) := ((Fr7.of_below hbd hw.size).setT ht.lo _ _).setEx (.inl rfl) hw.lo _ _
          rw [show ((d.fk + 1 : Nat) : Int) = (d.fk : Int) + 1 by omega, show ((t.forks + 1 : Nat) : Int) = (t.forks : Int) + 1 by omega] at ht5 hw5 hF5
          have hst : d.st ≤ 20001 := by have := HM.out.st; have := HG.out.2.2.2; simp only [up1] at *; omega
          have hfi : (t.forks : Int) ≤ 1000 := by omega
          have hki : (d.fk : Int) ≤ 20001 := by omega
          have HRUN : Hid (∀ w5, Wh E w5 { d with fk := d.fk + 1 } → Calls Tryd.prog 22 #[.pointer (some ⟨E.bw, 0, none⟩), .int .i64 (kidK chY t), .int .i64 b, .int .i64 (rg t c)] w5 fun e w' => RunPost E n w5 { d with fk := d.fk + 1 } (forkR (up1 r)) b (rg t c) (kidK chY t) e w') := fun w5 h5 => by
            have hno2 : ¬ E.p.depth ≤ depK t.key := by have := hno.out; omega
            obtain ⟨kk, k1, -, -, k3, k4, k5, -, -, -, -, k6, k7⟩ := kid_key hp HS.out hno2 hff
            have hkid := kid_st hp HS.out HG.out.1 H9.out.1 k1 k3 k4 k6 k7
            have e3 : chY t.key (t.forks + 1) = kk.key := k3
            unfold kidT at hkid
            rw [H9.out.2.2.1, H9.out.2.2.2, e3, Int.toNat_natCast] at hkid
            rw [k3]
            have hmt := HM.out
            exact ih w5 _ _ kk b (rg t c) h5 hkid HG.out.2.1 ⟨hmt.fu, hmt.ws, hmt.st, by show d.fk + 1 = r.forks + 1; have := hmt.fk; simp only [up1] at this; omega⟩ hb1 hb2 (HS.out.rg32 _) (fun x hx => by rw [k4]; exact HS.out.fr x hx) hn HG.out.2.2.2
          have hc8i : (c : Int) < 8 := by omega
          have ha4i : (a : Int) < 4 := by omega
          have HTH : Hid (t1.has.length = 4 ∧ t1.hand.length = 4) := by rw [HT1.out]; exact ⟨HS.out.has, HS.out.hand⟩
          go_upto_region 7 with fail
          generalize (wc.setCell ⟨bt, 5, none⟩ (.int .i64 ((t.forks : Int) + 1))).setCell ⟨E.bw, 6, none⟩ (.int .i64 ((d.fk : Int) + 1)) = w5 at *
          clear a0 a2 a1 a5 a6 b0 b2 b1 b5 b6 fz5 fz6 ht4 hw4 hwd htd hbd hbc hwr HD HK HC hok hdd
          have e0 := ht5.cellAt 0
          have ec := ht5.reg hc8
          simp only [HR.out] at ec
          simp [tkC] at e0
          rw [show t.reg.getD c 0 = rg t c from rfl] at ec
          obtain ⟨y, hy⟩ : ∃ y, rg t c = y := ⟨_, rfl⟩
          obtain ⟨kq, hkq⟩ : ∃ kq, kidK chY t = kq := ⟨_, rfl⟩
          rw [hy] at ec
          rw [hy, hkq] at HRUN
          rw [hkq]
          have HY : Hid (rg t c = y) := hy
          have HQ : Hid (kidK chY t = kq) := hkq
          clear hy hkq
          go_region_law (go_simp; go_at_call 22; refine (HRUN.out _ (by first | exact hw5 | exact hw5.drew)).mono ?_; rintro e w6 ⟨en, d6, rfl, hw6, hF6, hB6, hW6⟩; have ht6 := (show Tk7 E w6 bt cv _ from (by first | exact ht5.frame hw5 hF6 | exact ht5.drew.frame hw5.drew hF6)); obtain ⟨g1, g2⟩ := ht6.hand ha4; have g3 := ht6.frozen (14 + a * 2); have g4 := ht6.frozen (14 + a * 2 + 1))
          all_goals
            refine bodyPost_end (v := .tuple #[]) (by simp [results, Tryd.results70, go_sem]) rfl (FkPost.kid HT1.out (by have := hno.out; omega) hff (hw6.setT2 ht6 _ _ _ _) (ht6.setHand ha4 en.h en.v rfl rfl rfl rfl (by show t1.forks + 1 = t.forks + 1; rw [HFK.out]) fun j => ?_) (((hF5.drew.trans (hF6.wide _)).setT ht.lo _ _).setT ht.lo _ _) hB6 (by rw [HY.out, HQ.out]; exact hW6))
            exact forkT_hd t1 HTH.out.1 HTH.out.2 ha4 en j
end Go.Proofs.YtpmapdialjdcbaaDoor
namespace Go.Proofs.YtpmapdialjdcbaaDoor
open Go.RowKit
open C2 (In Pr SlF SlI InsAt still_of_below below_then)
open K6 (Ky)

/-- one instruction that is no fork -/
def StOne (E : Ev7) (bt : Nat) (cv : Value) (w : World) (d : Wd) (r : Rs) (t : Ts) (e : Ending) (w' : World) : Prop :=
  ∃ d', Sp E bt cv w d' (oneP (up1 r) (down1 t) (ins7 E.p t)).2 e w' ∧ Mt d' (oneP (up1 r) (down1 t) (ins7 E.p t)).1 ∧ d'.C = d.C
/-- a step's start: where nothing stands in the way -/
structure Pre7 (E : Ev7) (w : World) (d : Wd) (bt : Nat) (cv : Value) (r : Rs) (t : Ts) (tk : K6.Ky) : Prop where
  hp : Ok7 E.p
  hM : E.M ≤ 20000
  hw : Wh E w d
  ht : Tk7 E w bt cv t
  hcv : SlI E.W0 cv (E.p.fs.getD t.fn [])
  st : St7 E.p r t tk
  mt : Mt d r
theorem en_zero {t : Ts} (h : TOk t) (h0 : t.e.h = 0) : t.e = en0 := by
  rcases h.e with ⟨-, h2⟩ | h2
  · cases hte : t.e with | mk x y => rw [hte] at h0 h2; simp only at h0 h2; rw [h0, h2]; rfl
  · have := h2.1; omega
theorem Pre7.spend {E : Ev7} {w : World} {d : Wd} {bt : Nat} {cv : Value} {r : Rs} {t : Ts} {tk : Ky} (h : Pre7 E w d bt cv r t tk) (hg : goesB E.M r t) : Calls Tryd.prog 64 #[.pointer (some ⟨bt, 0, none⟩)] w fun e w' =>
    e = .returned (.tuple #[]) ∧ Wh E w' { d with st := d.st + 1 } ∧ Tk7 E w' bt cv { t with fuel := t.fuel - 1 } ∧ Fr7 E (some bt) w w' := by
  have hs := h.mt.st
  have h1 := hg.2.2.2
  have h2 := h.hM
  have := spend_some h.hw h.ht hg.2.2.1 h.st.fuel (by omega)
  rw [if_neg (by omega)] at this
  exact this
theorem Pre7.code {E : Ev7} {w : World} {d : Wd} {bt : Nat} {cv : Value} {r : Rs} {t : Ts} {tk : Ky} (h : Pre7 E w d bt cv r t tk) (h0 : t.e.h = 0) : ∃ g f cap m, cv = .slice (some ⟨g, f, none⟩) m cap ∧ t.at_ < m ∧ m ≤ 40 ∧ ∀ w' d', Wh E w' d' → InsAt w' g (f + t.at_ * 4) (ins7 E.p t) := by
  have hat := h.st.at_ h0
  have h40 := (h.hp.fn _ h.st.fnm).2.1
  obtain ⟨ad, cap, rfl, hx⟩ := h.hcv
  obtain ⟨g, f, rfl, hI⟩ := hx t.at_ hat
  refine ⟨g, f, cap, _, rfl, hat, h40, fun w' d' hw' => ?_⟩
  have e : ins7 E.p t = (E.p.fs.getD t.fn [])[t.at_] := by
    unfold ins7
    rw [List.getD_eq_getElem?_getD (l := E.p.fs.getD t.fn []), List.getElem?_eq_getElem hat]
    rfl
  rw [e]
  exact hI.still (still_of_below hw'.base)
/-- the instruction in its box, the place one further -/
structure Mid7 (E : Ev7) (w : World) (d : Wd) (bt : Nat) (cv : Value) (t : Ts) (x : In) (bi : Nat) (w2 : World) : Prop where
  wh : Wh E w2 { d with st := d.st + 1 }
  tk : Tk7 E w2 bt cv (down1 t)
  fr : Fr7 E (some bt) w w2
  ne : bi ≠ bt
  c0 : w2.cell? ⟨bi, 0, none⟩ = some (.int .i64 x.o)
  c1 : w2.cell? ⟨bi, 1, none⟩ = some (.int .i64 x.a)
  c2 : w2.cell? ⟨bi, 2, none⟩ = some (.int .i64 x.b)
  c3 : w2.cell? ⟨bi, 3, none⟩ = some (.int .i64 x.c)
theorem Mid7.made {E : Ev7} {w w1 : World} {d : Wd} {bt : Nat} {cv : Value} {t : Ts} {x : In} (hw1 : Wh E w1 { d with st := d.st + 1 }) (ht1 : Tk7 E w1 bt cv { t with fuel := t.fuel - 1 }) (hF1 : Fr7 E (some bt) w w1) : Mid7 E w d bt cv t x w1.heap.size ((w1.setCell ⟨bt, 3, none⟩ (.int .i64 ((t.at_ : Int) + 1))).alloc (.cells #[.int .i64 x.o, .int .i64 x.a, .int .i64 x.b, .int .i64 x.c] 54)).drew := by
  have hz : (w1.setCell ⟨bt, 3, none⟩ (.int .i64 ((t.at_ : Int) + 1))).heap.size = w1.heap.size := by simp [World.setCell]
  have hb := heap_alloc_new (w1.setCell ⟨bt, 3, none⟩ (.int .i64 ((t.at_ : Int) + 1))) (.cells #[.int .i64 x.o, .int .i64 x.a, .int .i64 x.b, .int .i64 x.c] 54)
  rw [hz] at hb
  have ne : w1.heap.size ≠ bt := by have := ht1.lt; omega
  have ht2 := ht1.setAt (t.at_ + 1)
  have hw2 := hw1.setT ht1 3 (.int .i64 ((t.at_ : Int) + 1))
  have hF2 := hF1.setT ht1.lo 3 (.int .i64 ((t.at_ : Int) + 1))
  exact ⟨(hw2.alloc _).drew, (ht2.alloc _).drew, (hF2.alloc hw2.size _).drew, ne, cell_of_row _ _ _ _ _ _ hb, cell_of_row _ _ _ _ _ _ hb, cell_of_row _ _ _ _ _ _ hb, cell_of_row _ _ _ _ _ _ hb⟩
theorem one_11 (r : Rs) (t : Ts) (a b : Nat) (c : Int) : (oneP (up1 r) (down1 t) ⟨11, a, b, c⟩).1 = (if r.was.getD a false = true then up1 r else { up1 r with was := r.was.set a true, futs := r.futs.set a (rg (down1 t) b) }) ∧ (oneP (up1 r) (down1 t) ⟨11, a, b, c⟩).2 = (if r.was.getD a false = true then (down1 t).ends 3 else down1 t) := by
  have e : oneP (up1 r) (down1 t) ⟨11, a, b, c⟩ = (if r.was.getD a false = true then (up1 r, (down1 t).ends 3) else ({ up1 r with was := r.was.set a true, futs := r.futs.set a (rg (down1 t) b) }, down1 t)) := rfl
  rw [e]
  by_cases hz : r.was.getD a false = true
  · rw [if_pos hz, if_pos hz, if_pos hz]; exact ⟨rfl, rfl⟩
  · rw [if_neg hz, if_neg hz, if_neg hz]; exact ⟨rfl, rfl⟩
theorem one_12 (r : Rs) (t : Ts) (a b : Nat) (c : Int) : (oneP (up1 r) (down1 t) ⟨12, a, b, c⟩).1 = up1 r ∧ (oneP (up1 r) (down1 t) ⟨12, a, b, c⟩).2 = (if r.was.getD b false = false then (down1 t).ends 4 else (down1 t).put a (r.futs.getD b 0)) := by
  have e : oneP (up1 r) (down1 t) ⟨12, a, b, c⟩ = (if r.was.getD b false = false then (up1 r, (down1 t).ends 4) else (up1 r, (down1 t).put a (r.futs.getD b 0))) := rfl
  rw [e]
  by_cases hz : r.was.getD b false = false
  · rw [if_pos hz, if_pos hz]; exact ⟨rfl, rfl⟩
  · rw [if_neg hz, if_neg hz]; exact ⟨rfl, rfl⟩
theorem st_one {E : Ev7} {bt : Nat} {cv : Value} {w : World} {d d' : Wd} {r r' : Rs} {t t' : Ts} {x : In} {e : Ending} {w' : World} (h : Hid ((oneP (up1 r) (down1 t) x).1 = r' ∧ (oneP (up1 r) (down1 t) x).2 = t')) (sp : Sp E bt cv w d' t' e w') (mt : Mt d' r') (hc : d'.C = d.C) : ∃ d', Sp E bt cv w d' (oneP (up1 r) (down1 t) x).2 e w' ∧ Mt d' (oneP (up1 r) (down1 t) x).1 ∧ d'.C = d.C :=
  ⟨d', by rw [h.out.2]; exact sp, by rw [h.out.1]; exact mt, hc⟩
theorem Mt.up {d : Wd} {r : Rs} (h : Mt d r) : Mt { d with st := d.st + 1 } (up1 r) := ⟨h.fu, h.ws, by show d.st + 1 = r.steps + 1; rw [h.st], h.fk⟩
end Go.Proofs.YtpmapdialjdcbaaDoor
namespace Go.Proofs.YtpmapdialjdcbaaDoor
open Go.RowKit
open C2 (In Pr SlF SlI InsAt still_of_below)

def rhC (E : Ev7) (rv : Value) (r : Rs) : Array Value := #[E.fv, .int .i64 E.p.futs, .int .i64 E.p.depth, .int .i64 E.p.fuel, rv, E.uv, E.sv, .int .i64 r.steps, .int .i64 r.forks, .int .i64 E.M, .bool r.over]
/-- what all tasks share -/
structure Rh (E : Ev7) (w : World) (rv : Value) (r : Rs) : Prop where
  base : Below E.W0.heap.size E.W0 w
  lo : E.W0.heap.size ≤ E.bw
  box : w.heap[E.bw]? = some (.cells (rhC E rv r) 43 (0, 0))
  ran : w.ownsRow E.W0.heap.size 60 5 rv r.ran.length (cellsR r.ran)
  fut : w.ownsRow E.W0.heap.size 3 1 E.uv r.futs.length (r.futs.map (Value.int .i64))
  was : w.ownsRow E.W0.heap.size 4 1 E.sv r.was.length (r.was.map Value.bool)
  fns : SlF E.W0 E.fv E.p.fs
/-- what a step of the reference leaves as it was -/
structure FrR (E : Ev7) (bt : Option Nat) (w w' : World) : Prop where
  low : Below E.W0.heap.size w w'
  mid : ∀ k, k < w.heap.size → ¬ Ex E k → bt ≠ some k → w'.heap[k]? = w.heap[k]?
section
variable {E : Ev7} {w w' : World} {rv : Value} {r : Rs} {bt : Option Nat}
theorem FrR.refl (E : Ev7) (bt : Option Nat) (w : World) : FrR E bt w w := ⟨Below.refl _ _, fun _ _ _ _ => rfl⟩
theorem FrR.trans {a b c : World} (h : FrR E bt a b) (k : FrR E bt b c) : FrR E bt a c :=
  ⟨h.low.trans k.low, fun i h1 h2 h3 => by rw [k.mid i (Nat.lt_of_lt_of_le h1 h.low.size) h2 h3, h.mid i h1 h2 h3]⟩
theorem FrR.wide {a b : World} (h : FrR E none a b) (bt : Option Nat) : FrR E bt a b := ⟨h.low, fun i h1 h2 _ => h.mid i h1 h2 (by simp)⟩
theorem FrR.narrow {a b c : World} {g : Nat} (h : FrR E none a b) (k : FrR E (some g) b c) (hb : a.heap.size ≤ g) : FrR E none a c :=
  ⟨h.low.trans k.low, fun i h1 h2 _ => by rw [k.mid i (Nat.lt_of_lt_of_le h1 h.low.size) h2 (by simp only [ne_eq, Option.some.injEq]; omega), h.mid i h1 h2 (by simp)]⟩
theorem FrR.of_below {a b : World} (h : Below a.heap.size a b) (hl : E.W0.heap.size ≤ a.heap.size) : FrR E bt a b := ⟨h.mono hl, fun i h1 _ _ => h.block i h1⟩
theorem FrR.drew {a b : World} (h : FrR E bt a b) : FrR E bt a b.drew := ⟨h.low.drew, h.mid⟩
theorem FrR.drewN {a b : World} (h : FrR E bt a b) (n : Nat) : FrR E bt a (b.drewN n) := ⟨⟨h.low.os, h.low.tape, h.low.output, h.low.size, h.low.block⟩, h.mid⟩
theorem FrR.alloc {a b : World} (h : FrR E bt a b) (hl : E.W0.heap.size ≤ b.heap.size) (o : Obj) : FrR E bt a (b.alloc o) :=
  ⟨h.low.alloc hl o, fun i h1 h2 h3 => (Below.heap_alloc _ _ _ (Nat.lt_of_lt_of_le h1 h.low.size)).trans (h.mid i h1 h2 h3)⟩
theorem FrR.setEx {a b : World} (h : FrR E bt a b) {g : Nat} (hg : Ex E g) (hl : E.W0.heap.size ≤ g) (f : Nat) (v : Value) : FrR E bt a (b.setCell ⟨g, f, none⟩ v) :=
  ⟨h.low.setCell (p := ⟨g, f, none⟩) hl v, fun i h1 h2 h3 => (Below.heap_setCell _ _ _ _ (fun e => h2 (by rw [e]; exact hg))).trans (h.mid i h1 h2 h3)⟩
theorem FrR.setT {a b : World} {g : Nat} (h : FrR E (some g) a b) (hl : E.W0.heap.size ≤ g) (f : Nat) (v : Value) : FrR E (some g) a (b.setCell ⟨g, f, none⟩ v) :=
  ⟨h.low.setCell (p := ⟨g, f, none⟩) hl v, fun i h1 h2 h3 => (Below.heap_setCell _ _ _ _ (fun e => h3 (by rw [e]))).trans (h.mid i h1 h2 h3)⟩
theorem FrR.setNew {a b : World} (h : FrR E bt a b) {g : Nat} (hg : a.heap.size ≤ g) (hl : E.W0.heap.size ≤ g) (f : Nat) (v : Value) : FrR E bt a (b.setCell ⟨g, f, none⟩ v) :=
  ⟨h.low.setCell (p := ⟨g, f, none⟩) hl v, fun i h1 h2 h3 => (Below.heap_setCell _ _ _ _ (by simp only; omega)).trans (h.mid i h1 h2 h3)⟩
theorem Rh.cellsAt (h : Rh E w rv r) (f : Nat) : w.cell? ⟨E.bw, f, none⟩ = (rhC E rv r)[f]? := cell_of_row _ _ _ _ _ _ h.box
theorem Rh.frozen (h : Rh E w rv r) (f : Nat) : w.frozen? ⟨E.bw, f, none⟩ = false := frozen_of_row w _ f _ _ h.box
theorem Rh.lt (h : Rh E w rv r) : E.bw < w.heap.size := lt_of_block h.box
theorem Rh.size (h : Rh E w rv r) : E.W0.heap.size ≤ w.heap.size := h.base.size
theorem Rh.exlo (h : Rh E w rv r) {k : Nat} (hk : Ex E k) : E.W0.heap.size ≤ k ∧ k < w.heap.size := by
  rcases hk with rfl | hk | hk
  · exact ⟨h.lo, h.lt⟩
  · exact h.fut.lt k hk
  · exact h.was.lt k hk
theorem Rh.exTyp (h : Rh E w rv r) {g : Nat} {cs : Array Value} {T : TypeId} {fz : Nat × Nat} (hg : w.heap[g]? = some (.cells cs T fz)) (h1 : T ≠ 43) (h2 : T ≠ 3) (h3 : T ≠ 4) : ¬ Ex E g := by
  rintro (rfl | hk | hk)
  · rw [h.box] at hg
    simp at hg
    exact h1 hg.2.1.symm
  · exact own_typ h.fut hg h2.symm hk
  · exact own_typ h.was hg h3.symm hk
theorem Rh.same (h : Rh E w rv r) (hb : Below E.W0.heap.size w w') (hk : ∀ k, Ex E k ∨ rv.ownBlock = some k → w'.heap[k]? = w.heap[k]?) : Rh E w' rv r :=
  ⟨h.base.trans hb, h.lo, (hk _ (.inl (.inl rfl))).trans h.box, own_same7 h.ran fun g hg => hk g (.inr hg), own_same7 h.fut fun g hg => hk g (.inl (.inr (.inl hg))), own_same7 h.was fun g hg => hk g (.inl (.inr (.inr hg))), h.fns⟩
theorem Rh.rvlt (h : Rh E w rv r) {k : Nat} (hk : Ex E k ∨ rv.ownBlock = some k) : k < w.heap.size := by
  rcases hk with hk | hk
  · exact (h.exlo hk).2
  · exact (h.ran.lt k hk).2
theorem Rh.below (h : Rh E w rv r) (hb : Below w.heap.size w w') : Rh E w' rv r := h.same (hb.mono h.size) fun k hk => hb.block k (h.rvlt hk)
theorem Rh.alloc (h : Rh E w rv r) (o : Obj) : Rh E (w.alloc o) rv r := h.below ((Below.refl _ _).alloc (Nat.le_refl _) o)
theorem Rh.drew (h : Rh E w rv r) : Rh E w.drew rv r := h.below (Below.refl _ _).drew
theorem Rh.drewN (h : Rh E w rv r) (n : Nat) : Rh E (w.drewN n) rv r := h.below ⟨rfl, rfl, rfl, Nat.le_refl _, fun _ _ => rfl⟩
/-- another block turned -/
theorem Rh.setOther (h : Rh E w rv r) {g : Nat} {cs : Array Value} {T : TypeId} {fz : Nat × Nat} (hg : w.heap[g]? = some (.cells cs T fz)) (h1 : T ≠ 43) (h2 : T ≠ 3) (h3 : T ≠ 4) (h4 : T ≠ 60) (hl : E.W0.heap.size ≤ g) (f : Nat) (v : Value) : Rh E (w.setCell ⟨g, f, none⟩ v) rv r := by
  refine h.same ((Below.refl _ _).setCell (p := ⟨g, f, none⟩) hl v) fun k hk => Below.heap_setCell _ _ _ _ ?_
  rintro rfl
  rcases hk with hk | hk
  · exact h.exTyp hg h1 h2 h3 hk
  · exact own_typ h.ran hg h4.symm hk
/-- its own box turned -/
theorem Rh.setBox (h : Rh E w rv r) (f : Nat) (v : Value) (r' : Rs) (hc : (rhC E rv r).setIfInBounds f v = rhC E rv r') (h2 : r'.ran = r.ran) (h3 : r'.futs = r.futs) (h4 : r'.was = r.was) : Rh E (w.setCell ⟨E.bw, f, none⟩ v) rv r' := by
  have hs : ∀ b, b ≠ E.bw → (w.setCell ⟨E.bw, f, none⟩ v).heap[b]? = w.heap[b]? := fun b hb => Below.heap_setCell _ _ _ _ hb
  refine ⟨h.base.setCell (p := ⟨E.bw, f, none⟩) h.lo v, h.lo, ?_, ?_, ?_, ?_, h.fns⟩
  · rw [heap_setCell_same _ _ _ _ _ _ h.box, hc]
  · rw [h2]; exact own_same7 h.ran fun g hg => hs g fun e => own_typ h.ran h.box (by decide) (by rw [← e]; exact hg)
  · rw [h3]; exact own_same7 h.fut fun g hg => hs g fun e => own_typ h.fut h.box (by decide) (by rw [← e]; exact hg)
  · rw [h4]; exact own_same7 h.was fun g hg => hs g fun e => own_typ h.was h.box (by decide) (by rw [← e]; exact hg)
theorem Rh.setSt (h : Rh E w rv r) (n : Nat) : Rh E (w.setCell ⟨E.bw, 7, none⟩ (.int .i64 n)) rv { r with steps := n } := h.setBox 7 _ _ rfl rfl rfl rfl
theorem Rh.setFk (h : Rh E w rv r) (n : Nat) : Rh E (w.setCell ⟨E.bw, 8, none⟩ (.int .i64 n)) rv { r with forks := n } := h.setBox 8 _ _ rfl rfl rfl rfl
theorem Rh.setOv (h : Rh E w rv r) (b : Bool) : Rh E (w.setCell ⟨E.bw, 10, none⟩ (.bool b)) rv { r with over := b } := h.setBox 10 _ _ rfl rfl rfl rfl
/-- another list of what ran, in memory of its own -/
theorem Rh.setRan (h : Rh E w rv r) (rv' : Value) (L : List Rn) (ho : w.ownsRow E.W0.heap.size 60 5 rv' L.length (cellsR L)) : Rh E (w.setCell ⟨E.bw, 4, none⟩ rv') rv' { r with ran := L } := by
  have hs : ∀ b, b ≠ E.bw → (w.setCell ⟨E.bw, 4, none⟩ rv').heap[b]? = w.heap[b]? := fun b hb => Below.heap_setCell _ _ _ _ hb
  refine ⟨h.base.setCell (p := ⟨E.bw, 4, none⟩) h.lo _, h.lo, ?_, ?_, ?_, ?_, h.fns⟩
  · rw [heap_setCell_same _ _ _ _ _ _ h.box]; rfl
  · exact own_same7 ho fun g hg => hs g fun e => own_typ ho h.box (by decide) (by rw [← e]; exact hg)
  · exact own_same7 h.fut fun g hg => hs g fun e => own_typ h.fut h.box (by decide) (by rw [← e]; exact hg)
  · exact own_same7 h.was fun g hg => hs g fun e => own_typ h.was h.box (by decide) (by rw [← e]; exact hg)
theorem Rh.setFut (h : Rh E w rv r) {g cap : Nat} (hv : E.uv = .slice (some ⟨g, 0, none⟩) r.futs.length cap) (k : Nat) (x : Int) : Rh E (w.setCell ⟨g, k, none⟩ (.int .i64 x)) rv { r with futs := r.futs.set k x } := by
  have hgo : E.uv.ownBlock = some g := by rw [hv]; rfl
  have hs : ∀ b, b ≠ g → (w.setCell ⟨g, k, none⟩ (.int .i64 x)).heap[b]? = w.heap[b]? := fun b hb => Below.heap_setCell _ _ _ _ hb
  have ho := h.fut
  rw [hv] at ho
  refine ⟨h.base.setCell (p := ⟨g, k, none⟩) (h.fut.lt g hgo).1 _, h.lo, (hs _ fun e => own_typ h.fut h.box (by decide) (by rw [e]; exact hgo)).trans h.box, own_same7 h.ran fun b hb => hs b fun e => own_apart h.fut h.ran (by decide) g hgo (by rw [← e]; exact hb), ?_, own_same7 h.was fun b hb => hs b fun e => own_apart h.fut h.was (by decide) g hgo (by rw [← e]; exact hb), h.fns⟩
  have := own_set1 ho k (.int .i64 x)
  rw [hv, List.length_set, List.map_set]
  exact this
theorem Rh.setWas (h : Rh E w rv r) {g cap : Nat} (hv : E.sv = .slice (some ⟨g, 0, none⟩) r.was.length cap) (k : Nat) (x : Bool) : Rh E (w.setCell ⟨g, k, none⟩ (.bool x)) rv { r with was := r.was.set k x } := by
  have hgo : E.sv.ownBlock = some g := by rw [hv]; rfl
  have hs : ∀ b, b ≠ g → (w.setCell ⟨g, k, none⟩ (.bool x)).heap[b]? = w.heap[b]? := fun b hb => Below.heap_setCell _ _ _ _ hb
  have ho := h.was
  rw [hv] at ho
  refine ⟨h.base.setCell (p := ⟨g, k, none⟩) (h.was.lt g hgo).1 _, h.lo, (hs _ fun e => own_typ h.was h.box (by decide) (by rw [e]; exact hgo)).trans h.box, own_same7 h.ran fun b hb => hs b fun e => own_apart h.was h.ran (by decide) g hgo (by rw [← e]; exact hb), own_same7 h.fut fun b hb => hs b fun e => own_apart h.was h.fut (by decide) g hgo (by rw [← e]; exact hb), ?_, h.fns⟩
  have := own_set1 ho k (.bool x)
  rw [hv, List.length_set, List.map_set]
  exact this
end
def trC (t : Ts) : Array Value := #[.int .i64 (t.reg.getD 0 0), .int .i64 (t.reg.getD 1 0), .int .i64 (t.reg.getD 2 0), .int .i64 (t.reg.getD 3 0), .int .i64 (t.reg.getD 4 0), .int .i64 (t.reg.getD 5 0), .int .i64 (t.reg.getD 6 0), .int .i64 (t.reg.getD 7 0),
  .bool (t.has.getD 0 false), .bool (t.has.getD 1 false), .bool (t.has.getD 2 false), .bool (t.has.getD 3 false),
  .int .i64 (t.hand.getD 0 en0).h, .int .i64 (t.hand.getD 0 en0).v, .int .i64 (t.hand.getD 1 en0).h, .int .i64 (t.hand.getD 1 en0).v, .int .i64 (t.hand.getD 2 en0).h, .int .i64 (t.hand.getD 2 en0).v, .int .i64 (t.hand.getD 3 en0).h, .int .i64 (t.hand.getD 3 en0).v,
  .int .i64 t.fn, .int .i64 t.at_, .int .i64 t.fuel, .int .i64 t.forks, .int .i64 t.key, .int .i64 t.e.h, .int .i64 t.e.v]
/-- a task -/
structure Tr (E : Ev7) (w : World) (bt : Nat) (t : Ts) : Prop where
  lo : E.W0.heap.size ≤ bt
  box : w.heap[bt]? = some (.cells (trC t) 89 (0, 0))
section
variable {E : Ev7} {w w' : World} {rv : Value} {r : Rs} {bt : Nat} {t : Ts}
theorem Tr.cellAt (h : Tr E w bt t) (f : Nat) : w.cell? ⟨bt, f, none⟩ = (trC t)[f]? := cell_of_row _ _ _ _ _ _ h.box
theorem Tr.frozen (h : Tr E w bt t) (f : Nat) : w.frozen? ⟨bt, f, none⟩ = false := frozen_of_row w _ f _ _ h.box
theorem Tr.lt (h : Tr E w bt t) : bt < w.heap.size := lt_of_block h.box
theorem Tr.reg (h : Tr E w bt t) {i : Nat} (hi : i < 8) : w.cell? ⟨bt, i, none⟩ = some (.int .i64 (t.reg.getD i 0)) := by
  rw [h.cellAt]
  match i, hi with
  | 0, _ => rfl
  | 1, _ => rfl
  | 2, _ => rfl
  | 3, _ => rfl
  | 4, _ => rfl
  | 5, _ => rfl
  | 6, _ => rfl
  | 7, _ => rfl
theorem Tr.has (h : Tr E w bt t) {i : Nat} (hi : i < 4) : w.cell? ⟨bt, 8 + i, none⟩ = some (.bool (t.has.getD i false)) := by
  rw [h.cellAt]
  match i, hi with
  | 0, _ => rfl
  | 1, _ => rfl
  | 2, _ => rfl
  | 3, _ => rfl
theorem Tr.hand (h : Tr E w bt t) {i : Nat} (hi : i < 4) : w.cell? ⟨bt, 12 + i * 2, none⟩ = some (.int .i64 (t.hand.getD i en0).h) ∧ w.cell? ⟨bt, 12 + i * 2 + 1, none⟩ = some (.int .i64 (t.hand.getD i en0).v) := by
  rw [h.cellAt, h.cellAt]
  match i, hi with
  | 0, _ => exact ⟨rfl, rfl⟩
  | 1, _ => exact ⟨rfl, rfl⟩
  | 2, _ => exact ⟨rfl, rfl⟩
  | 3, _ => exact ⟨rfl, rfl⟩
theorem Tr.same (h : Tr E w bt t) (hb : w'.heap[bt]? = w.heap[bt]?) : Tr E w' bt t := ⟨h.lo, hb.trans h.box⟩
theorem Tr.below (h : Tr E w bt t) (hb : Below w.heap.size w w') : Tr E w' bt t := h.same (hb.block bt h.lt)
theorem Tr.alloc (h : Tr E w bt t) (o : Obj) : Tr E (w.alloc o) bt t := h.same (Below.heap_alloc _ _ _ h.lt)
theorem Tr.drew (h : Tr E w bt t) : Tr E w.drew bt t := ⟨h.lo, h.box⟩
theorem Tr.drewN (h : Tr E w bt t) (n : Nat) : Tr E (w.drewN n) bt t := ⟨h.lo, h.box⟩
theorem Tr.notEx (h : Tr E w bt t) (hw : Rh E w rv r) : ¬ Ex E bt := hw.exTyp h.box (by decide) (by decide) (by decide)
theorem Tr.setEx (h : Tr E w bt t) (hw : Rh E w rv r) {g : Nat} (hg : Ex E g) (f : Nat) (v : Value) : Tr E (w.setCell ⟨g, f, none⟩ v) bt t := h.same (Below.heap_setCell _ _ _ _ fun e => h.notEx hw (by rw [e]; exact hg))
theorem Tr.setNe (h : Tr E w bt t) {g : Nat} (hg : bt ≠ g) (f : Nat) (v : Value) : Tr E (w.setCell ⟨g, f, none⟩ v) bt t := h.same (Below.heap_setCell _ _ _ _ hg)
theorem Tr.frame (h : Tr E w bt t) (hw : Rh E w rv r) (hf : FrR E none w w') : Tr E w' bt t := h.same (hf.mid bt h.lt (h.notEx hw) (by simp))
theorem Rh.setT (hw : Rh E w rv r) (h : Tr E w bt t) (f : Nat) (v : Value) : Rh E (w.setCell ⟨bt, f, none⟩ v) rv r := hw.setOther h.box (by decide) (by decide) (by decide) (by decide) h.lo f v
theorem Tr.setAny (h : Tr E w bt t) (f : Nat) (v : Value) {t' : Ts} (hc : (trC t).setIfInBounds f v = trC t') : Tr E (w.setCell ⟨bt, f, none⟩ v) bt t' := ⟨h.lo, by rw [heap_setCell_same _ _ _ _ _ _ h.box, hc]⟩
theorem Tr.setAt (h : Tr E w bt t) (n : Nat) : Tr E (w.setCell ⟨bt, 21, none⟩ (.int .i64 n)) bt { t with at_ := n } := h.setAny 21 _ rfl
theorem Tr.setFuel (h : Tr E w bt t) (n : Nat) : Tr E (w.setCell ⟨bt, 22, none⟩ (.int .i64 n)) bt { t with fuel := n } := h.setAny 22 _ rfl
theorem Tr.setForks (h : Tr E w bt t) (n : Nat) : Tr E (w.setCell ⟨bt, 23, none⟩ (.int .i64 n)) bt { t with forks := n } := h.setAny 23 _ rfl
theorem Tr.setEnds (h : Tr E w bt t) (n : Int) : Tr E (w.setCell ⟨bt, 25, none⟩ (.int .i64 n)) bt (t.ends n) := h.setAny 25 _ rfl
theorem Tr.setE (h : Tr E w bt t) (a b : Int) : Tr E ((w.setCell ⟨bt, 25, none⟩ (.int .i64 a)).setCell ⟨bt, 26, none⟩ (.int .i64 b)) bt { t with e := ⟨a, b⟩ } := (h.setEnds a).setAny 26 _ rfl
theorem Tr.setReg (h : Tr E w bt t) (hl : t.reg.length = 8) {i : Nat} (hi : i < 8) (x : Int) : Tr E (w.setCell ⟨bt, i, none⟩ (.int .i64 x)) bt (t.put i x) := by
  refine h.setAny i _ ?_
  obtain ⟨reg, has, hand, fn, at_, fuel, forks, key, e⟩ := t
  simp only at hl
  match reg, hl with
  | [a, b, c, d, e', f, g, z], _ =>
    match i, hi with
    | 0, _ => rfl
    | 1, _ => rfl
    | 2, _ => rfl
    | 3, _ => rfl
    | 4, _ => rfl
    | 5, _ => rfl
    | 6, _ => rfl
    | 7, _ => rfl
theorem Tr.setHas (h : Tr E w bt t) (hl : t.has.length = 4) {i : Nat} (hi : i < 4) (x : Bool) : Tr E (w.setCell ⟨bt, 8 + i, none⟩ (.bool x)) bt { t with has := t.has.set i x } := by
  refine h.setAny (8 + i) _ ?_
  obtain ⟨reg, has, hand, fn, at_, fuel, forks, key, e⟩ := t
  simp only at hl
  match has, hl with
  | [a, b, c, d], _ =>
    match i, hi with
    | 0, _ => rfl
    | 1, _ => rfl
    | 2, _ => rfl
    | 3, _ => rfl
theorem Tr.setHand (h : Tr E w bt t) (hl : t.hand.length = 4) {i : Nat} (hi : i < 4) (x y : Int) : Tr E ((w.setCell ⟨bt, 12 + i * 2, none⟩ (.int .i64 x)).setCell ⟨bt, 12 + i * 2 + 1, none⟩ (.int .i64 y)) bt { t with hand := t.hand.set i ⟨x, y⟩ } := by
  refine ⟨h.lo, ?_⟩
  rw [heap_setCell_same _ _ _ _ _ _ (heap_setCell_same _ _ _ _ _ _ h.box)]
  congr 2
  obtain ⟨reg, has, hand, fn, at_, fuel, forks, key, e⟩ := t
  simp only at hl
  match hand, hl with
  | [a, b, c, d], _ =>
    match i, hi with
    | 0, _ => rfl
    | 1, _ => rfl
    | 2, _ => rfl
    | 3, _ => rfl
theorem Rh.setT2 (hw : Rh E w rv r) (h : Tr E w bt t) (f k : Nat) (v u : Value) : Rh E ((w.setCell ⟨bt, f, none⟩ v).setCell ⟨bt, k, none⟩ u) rv r :=
  (hw.setT h f v).setOther (heap_setCell_same _ _ _ _ _ _ h.box) (by decide) (by decide) (by decide) (by decide) h.lo k u
theorem FrR.setT2 {a b : World} {g : Nat} (h : FrR E (some g) a b) (hl : E.W0.heap.size ≤ g) (f k : Nat) (v u : Value) : FrR E (some g) a ((b.setCell ⟨g, f, none⟩ v).setCell ⟨g, k, none⟩ u) := (h.setT hl f v).setT hl k u
end
/-- what one instruction that is no fork leaves -/
structure ROne (E : Ev7) (bt : Nat) (rv : Value) (w : World) (q : Rs × Ts) (e : Ending) (w' : World) : Prop where
  ret : e = .returned (.tuple #[])
  rh : Rh E w' rv q.1
  tr : Tr E w' bt q.2
  fr : FrR E (some bt) w w'
/-- the instruction in its box -/
structure Mr (E : Ev7) (w : World) (rv : Value) (r : Rs) (bt : Nat) (t : Ts) (o a b c : Int) (bi : Nat) (w2 : World) : Prop where
  rh : Rh E w2 rv r
  tr : Tr E w2 bt t
  fr : FrR E (some bt) w w2
  lt : bt < bi
  lw : E.bw < bi
  ex : ∀ g, Ex E g → g < bi
  c0 : w2.cell? ⟨bi, 0, none⟩ = some (.int .i64 o)
  c1 : w2.cell? ⟨bi, 1, none⟩ = some (.int .i64 a)
  c2 : w2.cell? ⟨bi, 2, none⟩ = some (.int .i64 b)
  c3 : w2.cell? ⟨bi, 3, none⟩ = some (.int .i64 c)
theorem Mr.made {E : Ev7} {w : World} {rv : Value} {r : Rs} {bt : Nat} {t : Ts} (o a b c : Int) (hw : Rh E w rv r) (ht : Tr E w bt t) : Mr E w rv r bt t o a b c w.heap.size (w.alloc (.cells #[.int .i64 o, .int .i64 a, .int .i64 b, .int .i64 c] 54)) := by
  have hb := heap_alloc_new w (.cells #[.int .i64 o, .int .i64 a, .int .i64 b, .int .i64 c] 54)
  exact ⟨hw.alloc _, ht.alloc _, (FrR.refl _ _ _).alloc hw.size _, ht.lt, hw.lt, fun g hg => (hw.exlo hg).2, cell_of_row _ _ _ _ _ _ hb, cell_of_row _ _ _ _ _ _ hb, cell_of_row _ _ _ _ _ _ hb, cell_of_row _ _ _ _ _ _ hb⟩
end Go.Proofs.YtpmapdialjdcbaaDoor
namespace Go.Proofs.YtpmapdialjdcbaaDoor
open Go.RowKit
open C2 (In Pr SlF SlI InsAt still_of_below below_then)

set_option maxHeartbeats 2000000 in
set_option maxRecDepth 4000 in
theorem rone_1 {E : Ev7} {w : World} {rv : Value} {r : Rs} {t : Ts} {bt a : Nat} {b c : Int} (hw : Rh E w rv r) (ht : Tr E w bt t) (hl : t.reg.length = 8) (hr : ∀ x ∈ t.reg, wrp x = x) (hh : t.has.length = 4) (hn : t.hand.length = 4) (ha : a < 8) :
    Calls Tryd.prog 36 #[.pointer (some ⟨E.bw, 0, none⟩), .pointer (some ⟨bt, 0, none⟩), .agg #[.int .i64 1, .int .i64 a, .int .i64 b, .int .i64 c]] w fun e w' => ROne E bt rv w (oneP r t ⟨1, a, b, c⟩) e w' := by
  have hM := Mr.made 1 a b c hw ht
  have HO : Hid (oneP r t ⟨1, a, b, c⟩ = (r, t.put a b)) := by show _ = _; simp [oneP]
  have HR : Hid (t.reg.length = 8 ∧ (∀ x ∈ t.reg, wrp x = x) ∧ t.has.length = 4 ∧ t.hand.length = 4) := ⟨hl, hr, hh, hn⟩
  clear hl hr hh hn hw ht
  go_enter Tryd.func36, Tryd.ntmps36
  go_upto_region 4 with fail
  generalize hW2 : w.alloc (.cells #[.int .i64 1, .int .i64 a, .int .i64 b, .int .i64 c] 54) = w2 at *
  generalize hBI : w.heap.size = bi at *
  clear hW2 hBI
  obtain ⟨mw, mt, mf, ml, mlw, mex, j0, j1, j2, j3⟩ := hM
  have mn : bi ≠ bt := by omega
  have mn2 : bt ≠ bi := by omega
  have hai : (a : Int) < 8 := by omega
  have ca := mt.reg ha
  have fa := mt.frozen a
  go_wp2_with fail
  go_region
  all_goals
    go_wp2_with fail
    exact bodyPost_end (v := .tuple #[]) (by simp [results, Tryd.results36, go_sem]) rfl (by rw [HO.out]; exact ⟨rfl, mw.drew.setT mt.drew _ _, mt.drew.setReg HR.out.1 ha _, mf.drew.setT mt.lo _ _⟩)
end Go.Proofs.YtpmapdialjdcbaaDoor
