/-
  Helpers: EvU, EvV, EvB, EvA1, EvA2, EvA3, EvA4, EvA5, EvA6, EvA7.
-/
import Derived.Test.YtpmapdialjdcbabDoorBun8bb2be41c165
import Derived.Deep.DeepCutAuto
import Derived.Deep.CutBlock
namespace Go.Proofs.YtpmapdialjdcbabDoor
open Go.RowKit
open C2 (In Pr SlF SlI InsAt still_of_below below_then)
open K6 (Ky)

structure Mt (d : Wd) (r : Rs) : Prop where
  fu : d.fu = r.futs
  ws : d.ws = r.was
  st : d.st = r.steps
  fk : d.fk = r.forks
structure Bd (d : Wd) : Prop where
  c : d.C.length ≤ d.st + 1
  k : d.fk ≤ d.st
abbrev endV (e : En) : Value := .agg #[.int .i64 e.h, .int .i64 e.v]
/-- what is known of the whole behind a task: as the evaluator says, or over -/
def Was7 (E : Ev7) (n : Nat) (d : Wd) (r : Rs) (fn : Nat) (arg k : Int) (en : En) (d' : Wd) : Prop :=
  ((ev7 E.p E.M r (ts0 fn arg k E.p.fuel.toNat)).1.over = false ∧ en = (ev7 E.p E.M r (ts0 fn arg k E.p.fuel.toNat)).2.e ∧ Mt d' (told (ev7 E.p E.M r (ts0 fn arg k E.p.fuel.toNat)).1 fn arg k (ev7 E.p E.M r (ts0 fn arg k E.p.fuel.toNat)).2.e) ∧ ∃ Z, d'.C = d.C ++ Z ∧ (told (ev7 E.p E.M r (ts0 fn arg k E.p.fuel.toNat)).1 fn arg k (ev7 E.p E.M r (ts0 fn arg k E.p.fuel.toNat)).2.e).ran = r.ran ++ Z) ∨
  ((ev7 E.p E.M r (ts0 fn arg k E.p.fuel.toNat)).1.over = true ∧ E.M < d'.st ∧ d'.st ≤ E.M + 1 + n ∧ d.C.length ≤ d'.C.length)
def RunPost (E : Ev7) (n : Nat) (w : World) (d : Wd) (r : Rs) (fn : Nat) (arg k : Int) (e : Ending) (w' : World) : Prop :=
  ∃ en d', e = .returned (endV en) ∧ Wh E w' d' ∧ Fr7 E none w w' ∧ Bd d' ∧ Was7 E n d r fn arg k en d'
def RunsOk (E : Ev7) (n : Nat) : Prop := ∀ (w : World) (d : Wd) (r : Rs) (kk : Ky) (fn : Nat) (arg : Int), Wh E w d → St7 E.p r (ts0 fn arg kk.key E.p.fuel.toNat) kk → r.over = false → Mt d r → d.C.length ≤ d.st → d.fk ≤ d.st → wrp arg = arg → (∀ x ∈ r.ran, x.key < kk.key) → E.M - r.steps ≤ n → r.steps ≤ E.M →
  Calls Tryd.prog 20 #[.pointer (some ⟨E.bw, 0, none⟩), .int .i64 kk.key, .int .i64 fn, .int .i64 arg] w fun e w' => RunPost E n w d r fn arg kk.key e w'
theorem forkT_hd (t : Ts) (hh : t.has.length = 4) (hn : t.hand.length = 4) {i : Nat} (hi : i < 4) (e : En) (j : Nat) : hdE (forkT t i e) j = if i = j then e else hdE t j := by
  have h := hdE_set t (i := i) (by omega) (by omega) true e j (forkT t i e) rfl rfl
  simpa using h
def FkPost (E : Ev7) (n bt : Nat) (cv : Value) (w : World) (d : Wd) (r : Rs) (t : Ts) (a b c : Nat) (e : Ending) (w' : World) : Prop :=
  if E.p.depth ≤ depK t.key then Sp E bt cv w d ((down1 t).ends 6) e w' else if 1000 ≤ t.forks then Sp E bt cv w d ((down1 t).ends 9) e w' else
  ∃ en d', e = .returned (.tuple #[]) ∧ Wh E w' d' ∧ Tk7 E w' bt cv (forkT (down1 t) a en) ∧ Fr7 E (some bt) w w' ∧ Bd d' ∧ Was7 E n d (forkR (up1 r)) b (rg t c) (kidK chY t) en d'
theorem FkPost.deep {E : Ev7} {n bt : Nat} {cv : Value} {w : World} {d : Wd} {r : Rs} {t t1 : Ts} {a b c : Nat} {e : Ending} {w' : World} (h1 : t1 = down1 t) (h : E.p.depth ≤ depK t.key) (hs : Sp E bt cv w d (t1.ends 6) e w') : FkPost E n bt cv w d r t a b c e w' := by
  unfold FkPost
  rw [if_pos h, ← h1]
  exact hs
theorem FkPost.many {E : Ev7} {n bt : Nat} {cv : Value} {w : World} {d : Wd} {r : Rs} {t t1 : Ts} {a b c : Nat} {e : Ending} {w' : World} (h1 : t1 = down1 t) (h : ¬ E.p.depth ≤ depK t.key) (hf : 1000 ≤ t.forks) (hs : Sp E bt cv w d (t1.ends 9) e w') : FkPost E n bt cv w d r t a b c e w' := by
  unfold FkPost
  rw [if_neg h, if_pos hf, ← h1]
  exact hs
theorem FkPost.kid {E : Ev7} {n bt : Nat} {cv : Value} {w : World} {d : Wd} {r : Rs} {t t1 : Ts} {a b c : Nat} {w' : World} (h1 : t1 = down1 t) (h : ¬ E.p.depth ≤ depK t.key) (hf : ¬ 1000 ≤ t.forks) {en : En} {d' : Wd} (k1 : Wh E w' d') (k2 : Tk7 E w' bt cv (forkT t1 a en)) (k3 : Fr7 E (some bt) w w') (k4 : Bd d') (k5 : Was7 E n d (forkR (up1 r)) b (rg t c) (kidK chY t) en d') : FkPost E n bt cv w d r t a b c (.returned (.tuple #[])) w' := by
  unfold FkPost
  rw [if_neg h, if_neg hf, ← h1]
  exact ⟨en, d', rfl, k1, k2, k3, k4, k5⟩
set_option maxHeartbeats 2000000 in
/-- a fork, wherever it leads -/
theorem fork_any {E : Ev7} (hp : Ok7 E.p) {n : Nat} (ih : RunsOk E n) {w : World} {d : Wd} {bt : Nat} {cv : Value} {r : Rs} {t t1 : Ts} {tk : Ky} (hM : E.M ≤ 20000) (h1 : t1 = down1 t) (hw : Wh E w d) (ht : Tk7 E w bt cv t1) (h : St7 E.p r t tk) (hg : goesB E.M r t) (hm : Mt d (up1 r)) (hb1 : d.C.length ≤ d.st) (hb2 : d.fk + 1 ≤ d.st) (hn : E.M - (r.steps + 1) ≤ n)
    (h9 : (ins7 E.p t).o = 9) {a b c : Nat} (ha : (ins7 E.p t).a = a) (hb : (ins7 E.p t).b = b) (hc : (ins7 E.p t).c = c) (ha4 : a < 4) (hc8 : c < 8) :
    Calls Tryd.prog 54 #[.pointer (some ⟨bt, 0, none⟩), .int .i64 a, .int .i64 b, .int .i64 c] w fun e w' => FkPost E n bt cv w d r t a b c e w' := by
  have hkey : t1.key = tk.key := by rw [h1]; exact h.key
  have hfk : t1.forks = t.forks := by rw [h1]; rfl
  have hreg : t1.reg = t.reg := by rw [h1]; rfl
  have he : t1.e = en0 := by
    rw [h1]
    show t.e = en0
    have h0 := hg.1
    rcases h.tok.e with ⟨-, h2⟩ | h2
    · cases hte : t.e with | mk x y => rw [hte] at h0 h2; simp only at h0 h2; rw [h0, h2]; rfl
    · have := h2.1; omega
  have hdk : depK t.key = tk.dep := by unfold depK; rw [h.key, K6.of_key h.ok]
  have hE6 : (t1.ends 6).e = ⟨6, 0⟩ := by rw [Ts.ends, he]; rfl
  have hE9 : (t1.ends 9).e = ⟨9, 0⟩ := by rw [Ts.ends, he]; rfl
  have hdp := h.dep
  have hd5 := hp.d5
  have hfks := h.fk
  have HD : Hid (∀ w, Calls Tryd.prog 66 #[.int .i64 t1.key] w fun e w' => e = .returned (.int .i64 tk.dep) ∧ Below w.heap.size w w') := fun w => by
    have h := K6.Depth_any t1.key (by rw [hkey]; have := K6.key_bd h.ok; unfold K6.inI; omega) w
    rw [hkey, K6.dp_key ‹St7 E.p r t tk›.ok] at h
    rw [hkey]
    exact h
  have HK : Hid (∀ w f', f' = (t.forks : Int) + 1 → Calls Tryd.prog 67 #[.int .i64 t1.key, .int .i64 f'] w fun e w' => e = .returned (.tuple #[.int .i64 (K6.chK tk.key (t.forks + 1)), .bool (K6.chO tk.key (t.forks + 1))]) ∧ Below w.heap.size w w') := fun w f' e => by
    have h := K6.Child_any t1.key (t.forks + 1) (by rw [hkey]; have := K6.key_bd h.ok; unfold K6.inI; omega) w
    unfold K6.ChPost at h
    rw [hkey] at h
    rw [hkey, e]
    exact h
  have HC : Hid (∀ w', Below w.heap.size w w' → w'.cell? ⟨bt, 0, none⟩ = some (.pointer (some ⟨E.bw, 0, none⟩)) ∧ w'.cell? ⟨E.bw, 2, none⟩ = some (.int .i64 E.p.depth) ∧ w'.cell? ⟨bt, 1, none⟩ = some (.int .i64 t1.key) ∧ w'.cell? ⟨bt, 5, none⟩ = some (.int .i64 t.forks) ∧ w'.cell? ⟨E.bw, 6, none⟩ = some (.int .i64 d.fk)) := fun w' hb => by
    have c0 := (ht.below hb).cellAt 0
    have c1 := (ht.below hb).cellAt 1
    have c5 := (ht.below hb).cellAt 5
    have c2 := (hw.below hb).cellsAt 2
    have c6 := (hw.below hb).cellsAt 6
    simp [tkC, Wd.box] at c0 c1 c2 c5 c6
    exact ⟨c0, c2, c1, by rw [c5, hfk], c6⟩
  obtain ⟨c0, c2, c1, c5, c6⟩ := HC.out w (Below.refl _ _)
  have HR : Hid (t1.reg = t.reg) := hreg
  have HS : Hid (St7 E.p r t tk) := h
  have HG : Hid (goesB E.M r t) := hg
  have HT1 : Hid (t1 = down1 t) := h1
  have H9 : Hid ((ins7 E.p t).o = 9 ∧ (ins7 E.p t).a = a ∧ (ins7 E.p t).b = b ∧ (ins7 E.p t).c = c) := ⟨h9, ha, hb, hc⟩
  have HKEY : Hid (t1.key = tk.key) := hkey
  have HE : Hid (t1.e = en0) := he
  have HDK : Hid (depK t.key = tk.dep) := hdk
  have HFK : Hid (t1.forks = t.forks) := hfk
  have HE6 : Hid ((t1.ends 6).e = ⟨6, 0⟩) := hE6
  have HE9 : Hid ((t1.ends 9).e = ⟨9, 0⟩) := hE9
  have HM : Hid (Mt d (up1 r)) := hm
  clear hkey hfk hreg he hdk hE6 hE9 h hg h1 h9 ha hb hc hm
  go_enter Tryd.func54, Tryd.ntmps54
  go_upto_region 0 with fail
  go_cut [23] (fun v wx => v = .bool (decide ((tk.dep : Int) = E.p.depth)) ∧ Below w.heap.size w wx)
  case first =>
    go_region_law (go_simp; go_at_call 66; refine (HD.out _).mono ?_; rintro e w1 ⟨rfl, hb1⟩; obtain ⟨d0, d2, -, -, -⟩ := HC.out w1 (below_then (Below.refl _ _).drew hb1))
    all_goals
      go_wp2_with fail
      go_meet
      exact ⟨congrArg Value.bool (Bool.beq_eq_decide_eq _ _), below_then (Below.refl _ _).drew hb1⟩
  case rest =>
    obtain ⟨rfl, hbc⟩ := hcut
    by_cases hdd : (tk.dep : Int) = E.p.depth
    · have e1 : decide ((tk.dep : Int) = E.p.depth) = true := by simpa using hdd
      rw [e1]
      clear e1
      go_wp2_with fail
      refine (stop_any _ _ _).mono ?_
      rintro e w' ⟨rfl, rfl⟩
      go_wp2_with fail
      refine ⟨rfl, FkPost.deep HT1.out (by rw [HDK.out]; omega) ?_⟩
      exact ⟨.inr ⟨by rw [HE6.out]; decide, by rw [HE6.out]⟩, hw.below hbc, Fr7.of_below hbc hw.size⟩
    · have e1 : decide ((tk.dep : Int) = E.p.depth) = false := by simpa using hdd
      rw [e1]
      clear e1
      obtain ⟨a0, a2, a1, a5, a6⟩ := HC.out wc hbc
      clear c0 c2 c1 c5 c6
      have hwr : IntKind.i64.wrap ((t.forks : Int) + 1) = (t.forks : Int) + 1 := by simp [IntKind.wrap, IntKind.bits, IntKind.signed]; omega
      go_upto_region 2 with fail
      go_cut [8, 9] (fun v8 v9 wx => v8 = .int .i64 (K6.chK tk.key (t.forks + 1)) ∧ v9 = .bool (K6.chO tk.key (t.forks + 1)) ∧ Below w.heap.size w wx)
      case first =>
        go_region_law (go_simp; go_at_call 67; refine (HK.out _ _ (by first | omega | exact hwr)).mono ?_; rintro e w1 ⟨rfl, hb1⟩)
        all_goals
          go_wp2_with fail
          go_meet
          exact ⟨rfl, rfl, below_then hbc.drew hb1⟩
      case rest =>
        obtain ⟨rfl, rfl, hbd⟩ := hcut
        have hok := HS.out.ok
        have hno : Hid (¬ E.p.depth ≤ depK t.key) := by show ¬ _; rw [HDK.out]; omega
        by_cases hff : 1000 ≤ t.forks
        · have e1 : K6.chO tk.key (t.forks + 1) = false := by rw [K6.chO_key hok]; simp; omega
          rw [e1]
          clear e1
          go_wp2_with fail
          refine (stop_any _ _ _).mono ?_
          rintro e w' ⟨rfl, rfl⟩
          go_wp2_with fail
          refine ⟨rfl, FkPost.many HT1.out (by have := hno.out; omega) hff ?_⟩
          exact ⟨.inr ⟨by rw [HE9.out]; decide, by rw [HE9.out]⟩, hw.below hbd, Fr7.of_below hbd hw.size⟩
        · have e1 : K6.chO tk.key (t.forks + 1) = true := by rw [K6.chO_key hok]; simp; omega
          have e2 : K6.chK tk.key (t.forks + 1) = kidK chY t := by
            rw [K6.chK_key hok (by omega) (by omega) (by omega)]
            unfold kidK chY
            rw [HS.out.key, K6.of_key hok]
          rw [e1, e2]
          clear e1 e2
          obtain ⟨b0, b2, b1, b5, b6⟩ := HC.out _ hbd
          have hwd := hw.below hbd
          have htd := ht.below hbd
          have fz5 := htd.frozen 5
          have fz6 := hwd.frozen 6
          have ne1 : E.bw ≠ bt := fun e => htd.notEx hwd (.inl e.symm)
          have ne2 : bt ≠ E.bw := fun e => ne1 e.symm
          have ht4 := htd.setForks (t.forks + 1)
          have hw4 := hwd.setT htd 5 (.int .i64 ((t.forks + 1 : Nat) : Int))
          have ht5 := ht4.setEx hw4 (.inl rfl) 6 (.int .i64 ((d.fk + 1 : Nat) : Int))
          have hw5 := hw4.setFk (d.fk + 1)
          have hF5 : Fr7 E (some bt) w ((wc.setCell ⟨bt, 5, none⟩ (.int .i64 ((t.forks + 1 : Nat) : Int))).setCell ⟨E.bw, 6, none⟩ (.int .i64 ((d.fk + 1 : Nat) : Int))) := ((Fr7.of_below hbd hw.size).setT ht.lo _ _).setEx (.inl rfl) hw.lo _ _
          rw [show ((d.fk + 1 : Nat) : Int) = (d.fk : Int) + 1 by omega, show ((t.forks + 1 : Nat) : Int) = (t.forks : Int) + 1 by omega] at ht5 hw5 hF5
          have hst : d.st ≤ 20001 := by have := HM.out.st; have := HG.out.2.2.2; simp only [up1] at *; omega
          have hfi : (t.forks : Int) ≤ 1000 := by omega
          have hki : (d.fk : Int) ≤ 20001 := by omega
          have HRUN : Hid (∀ w5, Wh E w5 { d with fk := d.fk + 1 } → Calls Tryd.prog 20 #[.pointer (some ⟨E.bw, 0, none⟩), .int .i64 (kidK chY t), .int .i64 b, .int .i64 (rg t c)] w5 fun e w' => RunPost E n w5 { d with fk := d.fk + 1 } (forkR (up1 r)) b (rg t c) (kidK chY t) e w') := fun w5 h5 => by
            have hno2 : ¬ E.p.depth ≤ depK t.key := by have := hno.out; omega
            obtain ⟨kk, k1, -, -, k3, k4, k5, -, -, -, -, k6, k7⟩ := kid_key hp HS.out hno2 hff
            have hkid := kid_st hp HS.out HG.out.1 H9.out.1 k1 k3 k4 k6 k7
            have e3 : chY t.key (t.forks + 1) = kk.key := k3
            unfold kidT at hkid
            rw [H9.out.2.2.1, H9.out.2.2.2, e3, Int.toNat_natCast] at hkid
            rw [k3]
            have hmt := HM.out
            exact ih w5 _ _ kk b (rg t c) h5 hkid HG.out.2.1 ⟨hmt.fu, hmt.ws, hmt.st, by show d.fk + 1 = r.forks + 1; have := hmt.fk; simp only [up1] at this; omega⟩ hb1 hb2 (HS.out.rg32 _) (fun x hx => by rw [k4]; exact HS.out.fr x hx) hn HG.out.2.2.2
          have hc8i : (c : Int) < 8 := by omega
          have ha4i : (a : Int) < 4 := by omega
          have HTH : Hid (t1.has.length = 4 ∧ t1.hand.length = 4) := by rw [HT1.out]; exact ⟨HS.out.has, HS.out.hand⟩
          go_upto_region 7 with fail
          generalize (wc.setCell ⟨bt, 5, none⟩ (.int .i64 ((t.forks : Int) + 1))).setCell ⟨E.bw, 6, none⟩ (.int .i64 ((d.fk : Int) + 1)) = w5 at *
          clear a0 a2 a1 a5 a6 b0 b2 b1 b5 b6 fz5 fz6 ht4 hw4 hwd htd hbd hbc hwr HD HK HC hok hdd
          have e0 := ht5.cellAt 0
          have ec := ht5.reg hc8
          simp only [HR.out] at ec
          simp [tkC] at e0
          rw [show t.reg.getD c 0 = rg t c from rfl] at ec
          obtain ⟨y, hy⟩ : ∃ y, rg t c = y := ⟨_, rfl⟩
          obtain ⟨kq, hkq⟩ : ∃ kq, kidK chY t = kq := ⟨_, rfl⟩
          rw [hy] at ec
          rw [hy, hkq] at HRUN
          rw [hkq]
          have HY : Hid (rg t c = y) := hy
          have HQ : Hid (kidK chY t = kq) := hkq
          clear hy hkq
          go_region_law (go_simp; go_at_call 20; refine (HRUN.out _ (by first | exact hw5 | exact hw5.drew)).mono ?_; rintro e w6 ⟨en, d6, rfl, hw6, hF6, hB6, hW6⟩; have ht6 := (show Tk7 E w6 bt cv _ from (by first | exact ht5.frame hw5 hF6 | exact ht5.drew.frame hw5.drew hF6)); obtain ⟨g1, g2⟩ := ht6.hand ha4; have g3 := ht6.frozen (14 + a * 2); have g4 := ht6.frozen (14 + a * 2 + 1))
          all_goals
            refine bodyPost_end (v := .tuple #[]) (by simp [results, Tryd.results54, go_sem]) rfl (FkPost.kid HT1.out (by have := hno.out; omega) hff (hw6.setT2 ht6 _ _ _ _) (ht6.setHand ha4 en.h en.v rfl rfl rfl rfl (by show t1.forks + 1 = t.forks + 1; rw [HFK.out]) fun j => ?_) (((hF5.drew.trans (hF6.wide _)).setT ht.lo _ _).setT ht.lo _ _) hB6 (by rw [HY.out, HQ.out]; exact hW6))
            exact forkT_hd t1 HTH.out.1 HTH.out.2 ha4 en j
end Go.Proofs.YtpmapdialjdcbabDoor
namespace Go.Proofs.YtpmapdialjdcbabDoor
open Go.RowKit
open C2 (In Pr SlF SlI InsAt still_of_below below_then)
open K6 (Ky)

/-- one instruction that is no fork -/
def StOne (E : Ev7) (bt : Nat) (cv : Value) (w : World) (d : Wd) (r : Rs) (t : Ts) (e : Ending) (w' : World) : Prop :=
  ∃ d', Sp E bt cv w d' (oneP (up1 r) (down1 t) (ins7 E.p t)).2 e w' ∧ Mt d' (oneP (up1 r) (down1 t) (ins7 E.p t)).1 ∧ d'.C = d.C
/-- a step's start: where nothing stands in the way -/
structure Pre7 (E : Ev7) (w : World) (d : Wd) (bt : Nat) (cv : Value) (r : Rs) (t : Ts) (tk : K6.Ky) : Prop where
  hp : Ok7 E.p
  hM : E.M ≤ 20000
  hw : Wh E w d
  ht : Tk7 E w bt cv t
  hcv : SlI E.W0 cv (E.p.fs.getD t.fn [])
  st : St7 E.p r t tk
  mt : Mt d r
theorem en_zero {t : Ts} (h : TOk t) (h0 : t.e.h = 0) : t.e = en0 := by
  rcases h.e with ⟨-, h2⟩ | h2
  · cases hte : t.e with | mk x y => rw [hte] at h0 h2; simp only at h0 h2; rw [h0, h2]; rfl
  · have := h2.1; omega
theorem Pre7.spend {E : Ev7} {w : World} {d : Wd} {bt : Nat} {cv : Value} {r : Rs} {t : Ts} {tk : Ky} (h : Pre7 E w d bt cv r t tk) (hg : goesB E.M r t) : Calls Tryd.prog 48 #[.pointer (some ⟨bt, 0, none⟩)] w fun e w' =>
    e = .returned (.tuple #[]) ∧ Wh E w' { d with st := d.st + 1 } ∧ Tk7 E w' bt cv { t with fuel := t.fuel - 1 } ∧ Fr7 E (some bt) w w' := by
  have hs := h.mt.st
  have h1 := hg.2.2.2
  have h2 := h.hM
  have := spend_some h.hw h.ht hg.2.2.1 h.st.fuel (by omega)
  rw [if_neg (by omega)] at this
  exact this
theorem Pre7.code {E : Ev7} {w : World} {d : Wd} {bt : Nat} {cv : Value} {r : Rs} {t : Ts} {tk : Ky} (h : Pre7 E w d bt cv r t tk) (h0 : t.e.h = 0) : ∃ g f cap m, cv = .slice (some ⟨g, f, none⟩) m cap ∧ t.at_ < m ∧ m ≤ 40 ∧ ∀ w' d', Wh E w' d' → InsAt w' g (f + t.at_ * 4) (ins7 E.p t) := by
  have hat := h.st.at_ h0
  have h40 := (h.hp.fn _ h.st.fnm).2.1
  obtain ⟨ad, cap, rfl, hx⟩ := h.hcv
  obtain ⟨g, f, rfl, hI⟩ := hx t.at_ hat
  refine ⟨g, f, cap, _, rfl, hat, h40, fun w' d' hw' => ?_⟩
  have e : ins7 E.p t = (E.p.fs.getD t.fn [])[t.at_] := by
    unfold ins7
    rw [List.getD_eq_getElem?_getD (l := E.p.fs.getD t.fn []), List.getElem?_eq_getElem hat]
    rfl
  rw [e]
  exact hI.still (still_of_below hw'.base)
/-- the instruction in its box, the place one further -/
structure Mid7 (E : Ev7) (w : World) (d : Wd) (bt : Nat) (cv : Value) (t : Ts) (x : In) (bi : Nat) (w2 : World) : Prop where
  wh : Wh E w2 { d with st := d.st + 1 }
  tk : Tk7 E w2 bt cv (down1 t)
  fr : Fr7 E (some bt) w w2
  ne : bi ≠ bt
  c0 : w2.cell? ⟨bi, 0, none⟩ = some (.int .i64 x.o)
  c1 : w2.cell? ⟨bi, 1, none⟩ = some (.int .i64 x.a)
  c2 : w2.cell? ⟨bi, 2, none⟩ = some (.int .i64 x.b)
  c3 : w2.cell? ⟨bi, 3, none⟩ = some (.int .i64 x.c)
theorem Mid7.made {E : Ev7} {w w1 : World} {d : Wd} {bt : Nat} {cv : Value} {t : Ts} {x : In} (hw1 : Wh E w1 { d with st := d.st + 1 }) (ht1 : Tk7 E w1 bt cv { t with fuel := t.fuel - 1 }) (hF1 : Fr7 E (some bt) w w1) : Mid7 E w d bt cv t x w1.heap.size ((w1.setCell ⟨bt, 3, none⟩ (.int .i64 ((t.at_ : Int) + 1))).alloc (.cells #[.int .i64 x.o, .int .i64 x.a, .int .i64 x.b, .int .i64 x.c] 54)).drew := by
  have hz : (w1.setCell ⟨bt, 3, none⟩ (.int .i64 ((t.at_ : Int) + 1))).heap.size = w1.heap.size := by simp [World.setCell]
  have hb := heap_alloc_new (w1.setCell ⟨bt, 3, none⟩ (.int .i64 ((t.at_ : Int) + 1))) (.cells #[.int .i64 x.o, .int .i64 x.a, .int .i64 x.b, .int .i64 x.c] 54)
  rw [hz] at hb
  have ne : w1.heap.size ≠ bt := by have := ht1.lt; omega
  have ht2 := ht1.setAt (t.at_ + 1)
  have hw2 := hw1.setT ht1 3 (.int .i64 ((t.at_ : Int) + 1))
  have hF2 := hF1.setT ht1.lo 3 (.int .i64 ((t.at_ : Int) + 1))
  exact ⟨(hw2.alloc _).drew, (ht2.alloc _).drew, (hF2.alloc hw2.size _).drew, ne, cell_of_row _ _ _ _ _ _ hb, cell_of_row _ _ _ _ _ _ hb, cell_of_row _ _ _ _ _ _ hb, cell_of_row _ _ _ _ _ _ hb⟩
theorem one_11 (r : Rs) (t : Ts) (a b : Nat) (c : Int) : (oneP (up1 r) (down1 t) ⟨11, a, b, c⟩).1 = (if r.was.getD a false = true then up1 r else { up1 r with was := r.was.set a true, futs := r.futs.set a (rg (down1 t) b) }) ∧ (oneP (up1 r) (down1 t) ⟨11, a, b, c⟩).2 = (if r.was.getD a false = true then (down1 t).ends 3 else down1 t) := by
  have e : oneP (up1 r) (down1 t) ⟨11, a, b, c⟩ = (if r.was.getD a false = true then (up1 r, (down1 t).ends 3) else ({ up1 r with was := r.was.set a true, futs := r.futs.set a (rg (down1 t) b) }, down1 t)) := rfl
  rw [e]
  by_cases hz : r.was.getD a false = true
  · rw [if_pos hz, if_pos hz, if_pos hz]; exact ⟨rfl, rfl⟩
  · rw [if_neg hz, if_neg hz, if_neg hz]; exact ⟨rfl, rfl⟩
theorem one_12 (r : Rs) (t : Ts) (a b : Nat) (c : Int) : (oneP (up1 r) (down1 t) ⟨12, a, b, c⟩).1 = up1 r ∧ (oneP (up1 r) (down1 t) ⟨12, a, b, c⟩).2 = (if r.was.getD b false = false then (down1 t).ends 4 else (down1 t).put a (r.futs.getD b 0)) := by
  have e : oneP (up1 r) (down1 t) ⟨12, a, b, c⟩ = (if r.was.getD b false = false then (up1 r, (down1 t).ends 4) else (up1 r, (down1 t).put a (r.futs.getD b 0))) := rfl
  rw [e]
  by_cases hz : r.was.getD b false = false
  · rw [if_pos hz, if_pos hz]; exact ⟨rfl, rfl⟩
  · rw [if_neg hz, if_neg hz]; exact ⟨rfl, rfl⟩
theorem st_one {E : Ev7} {bt : Nat} {cv : Value} {w : World} {d d' : Wd} {r r' : Rs} {t t' : Ts} {x : In} {e : Ending} {w' : World} (h : Hid ((oneP (up1 r) (down1 t) x).1 = r' ∧ (oneP (up1 r) (down1 t) x).2 = t')) (sp : Sp E bt cv w d' t' e w') (mt : Mt d' r') (hc : d'.C = d.C) : ∃ d', Sp E bt cv w d' (oneP (up1 r) (down1 t) x).2 e w' ∧ Mt d' (oneP (up1 r) (down1 t) x).1 ∧ d'.C = d.C :=
  ⟨d', by rw [h.out.2]; exact sp, by rw [h.out.1]; exact mt, hc⟩
theorem Mt.up {d : Wd} {r : Rs} (h : Mt d r) : Mt { d with st := d.st + 1 } (up1 r) := ⟨h.fu, h.ws, by show d.st + 1 = r.steps + 1; rw [h.st], h.fk⟩
end Go.Proofs.YtpmapdialjdcbabDoor
namespace Go.Proofs.YtpmapdialjdcbabDoor
open Go.RowKit
open C2 (In Pr SlF SlI InsAt still_of_below below_then)
open K6 (Ky)

set_option maxRecDepth 4000 in
theorem step_fuel {E : Ev7} {w : World} {bt : Nat} {cv : Value} {t : Ts} (ht : Tk7 E w bt cv t) (hf : t.fuel = 0) : Calls Tryd.prog 43 #[.pointer (some ⟨bt, 0, none⟩)] w fun e w' => e = pan ⟨5, 0⟩ ∧ w' = w := by
  have q := spend_none ht hf
  clear ht hf
  go_enter Tryd.func43, Tryd.ntmps43
  go_wp2_with fail
  refine q.mono ?_
  rintro e w' ⟨rfl, rfl⟩
  go_wp2_with fail
  exact ⟨rfl, rfl, rfl⟩
set_option maxRecDepth 4000 in
theorem step_over {E : Ev7} {w : World} {d : Wd} {bt : Nat} {cv : Value} {t : Ts} (hw : Wh E w d) (ht : Tk7 E w bt cv t) (hf : t.fuel ≠ 0) (hf2 : t.fuel ≤ 500) (hs : d.st ≤ 1000000) (ho : E.M ≤ d.st) : Calls Tryd.prog 43 #[.pointer (some ⟨bt, 0, none⟩)] w fun e w' => e = pan ⟨0, 0⟩ ∧ Wh E w' { d with st := d.st + 1 } ∧ Fr7 E (some bt) w w' := by
  have q := spend_some hw ht hf hf2 hs
  rw [if_pos (by omega)] at q
  clear hw ht hf hs ho hf2
  go_enter Tryd.func43, Tryd.ntmps43
  go_wp2_with fail
  refine q.mono ?_
  rintro e w' ⟨rfl, h1, h2, h3⟩
  go_wp2_with fail
  exact ⟨rfl, rfl, h1, h3⟩
/-- there are never more instructions than there may be -/
theorem ev_le {p : Pg7} {M : Nat} : ∀ (n : Nat) (r : Rs) (t : Ts), M - r.steps ≤ n → r.steps ≤ M → (ev7 p M r t).1.steps ≤ M := by
  intro n
  induction n with
  | zero =>
    intro r t hn hM
    rcases goes_or M r t with h | ⟨h1, h2, h3⟩ | ⟨h1, h2, h3, h4⟩ | h
    · rw [ev7, evP_end p M depK chY h]; exact hM
    · rw [ev7, evP_fuel p M depK chY h1 h2 h3]; exact hM
    · rw [ev7, evP_over p M depK chY h1 h2 h3 h4]; exact hM
    · have := h.2.2.2; omega
  | succ n ih =>
    intro r t hn hM
    rcases goes_or M r t with h | ⟨h1, h2, h3⟩ | ⟨h1, h2, h3, h4⟩ | h
    · rw [ev7, evP_end p M depK chY h]; exact hM
    · rw [ev7, evP_fuel p M depK chY h1 h2 h3]; exact hM
    · rw [ev7, evP_over p M depK chY h1 h2 h3 h4]; exact hM
    · have hs := h.2.2.2
      rcases evP_ways p depK chY h with ⟨r', t', k1, k2, k3, k4⟩ | k
      · rw [ev7, k3]
        exact ih r' t' (by omega) (by omega)
      · rw [ev7, k M h]
        have hf : (forkR (up1 r)).steps = r.steps + 1 := rfl
        have m1 := evP_mono p M depK chY (forkR (up1 r)) (kidT p chY t)
        have m2 := ih (forkR (up1 r)) (kidT p chY t) (by omega) (by omega)
        unfold ev7 at m2
        refine ih _ _ ?_ ?_
        · rw [(told_steps _ _ _ _ _).1]; omega
        · rw [(told_steps _ _ _ _ _).1]; omega
end Go.Proofs.YtpmapdialjdcbabDoor
namespace Go.Proofs.YtpmapdialjdcbabDoor
open Go.RowKit
open C2 (In Pr SlF SlI InsAt still_of_below below_then)
open K6 (Ky)

set_option maxHeartbeats 2000000 in
set_option maxRecDepth 4000 in
theorem step_1 {E : Ev7} {w : World} {d : Wd} {bt : Nat} {cv : Value} {r : Rs} {t : Ts} {tk : Ky} (h : Pre7 E w d bt cv r t tk) (hg : goesB E.M r t) (ho : (ins7 E.p t).o = 1) : Calls Tryd.prog 43 #[.pointer (some ⟨bt, 0, none⟩)] w fun e w' => StOne E bt cv w d r t e w' := by
  have hx := (h.hp.fn _ h.st.fnm).2.2.2 _ (h.st.insm hg.1)
  have hs := shape_facts hx.1
  have hr := V5.right_iff.1 hx.2
  obtain ⟨g, f, cap, m, rfl, hat, hm, hI⟩ := h.code hg.1
  have HSP := h.spend hg
  have HE : Hid (t.e = en0) := en_zero h.st.tok hg.1
  have hst := h.st
  have hmt := h.mt
  have hati : (t.at_ : Int) < m := by omega
  unfold StOne
  generalize hX : ins7 E.p t = x at *
  obtain ⟨xo, xa, xb, xc⟩ := x
  simp only at ho
  subst ho
  obtain ⟨a, rfl⟩ : ∃ a : Nat, xa = a := ⟨xa.toNat, by have := hs.a0; have := hs.c0; have := hs.b0; simp only at *; omega⟩
  have H : Hid (Pre7 E w d bt (.slice (some ⟨g, f, none⟩) m cap) r t tk) := h
  have HI : Hid (∀ w' d', Wh E w' d' → InsAt w' g (f + t.at_ * 4) ⟨1, a, xb, xc⟩) := hI
  have HST : Hid (St7 E.p r t tk) := hst
  have HMT : Hid (Mt d r) := hmt
  have ha : a < 8 := by have := hs.r; simp only at this; omega
  have hai : (a : Int) < 8 := by omega
  have hw32 : wrp xb = xb := by have := hs.c1 rfl; simp only at this; exact wrp_fix this.1 this.2
  have HO : Hid ((oneP (up1 r) (down1 t) ⟨1, a, xb, xc⟩).1 = up1 r ∧ (oneP (up1 r) (down1 t) ⟨1, a, xb, xc⟩).2 = (down1 t).put a xb) := by show _ ∧ _; constructor <;> simp [oneP]
  clear h hI hst hmt hx hs hr hX
  go_enter Tryd.func43, Tryd.ntmps43
  go_wp2_with fail
  refine HSP.mono ?_
  rintro e w1 ⟨rfl, hw1, ht1, hF1⟩
  have hMid := Mid7.made (x := ⟨1, a, xb, xc⟩) hw1 ht1 hF1
  obtain ⟨i0, i1, i2, i3⟩ := HI.out w1 _ hw1
  have c2 := ht1.cellAt 2
  have c3 := ht1.cellAt 3
  have fz3 := ht1.frozen 3
  have hlt := ht1.lt
  simp [tkC] at c2 c3
  simp only at i0 i1 i2 i3 hMid
  have hltg : g < w1.heap.size := block_lt_of_cell i0
  clear HSP
  go_wp2_with fail
  go_region
  go_upto_region 4 with fail
  generalize hW2 : ((w1.setCell ⟨bt, 3, none⟩ (.int .i64 ((t.at_ : Int) + 1))).alloc (.cells #[.int .i64 1, .int .i64 a, .int .i64 xb, .int .i64 xc] 54)).drew = w2 at *
  generalize hBI : w1.heap.size = bi at *
  clear hW2 i0 i1 i2 i3 c2 c3 fz3 hlt hltg hw1 ht1 hF1 hBI
  obtain ⟨mw, mt, mf, mn, j0, j1, j2, j3⟩ := hMid
  simp only at j0 j1 j2 j3
  have mn2 : bt ≠ bi := fun e => mn e.symm
  have hE1 : Hid ((down1 t).e = en0) := HE.out
  have hlen : Hid ((down1 t).reg.length = 8) := HST.out.reg
  have hR32 : Hid (∀ x ∈ (down1 t).reg, wrp x = x) := HST.out.r32
  have ca := mt.reg ha
  have fa := mt.frozen (6 + a)
  have q := fun w => V1.wrap_any xb w
  rw [v_wrap, hw32] at q
  clear hw32
  go_wp2_with fail
  go_region_law (go_simp; go_at_call 21; refine (q _).mono ?_; rintro e w3 ⟨rfl, rfl⟩)
  all_goals
    go_wp2_with fail
    exact bodyPost_end (v := .tuple #[]) (by simp [results, Tryd.results43, go_sem]) rfl (st_one (d' := { d with st := d.st + 1 }) HO ⟨.inl ⟨by show t.e.h = 0; rw [HE.out]; rfl, rfl, mt.drew.setReg hlen.out ha _⟩, mw.drew.setT mt.drew _ _, mf.drew.setT mt.lo _ _⟩ HMT.out.up rfl)
end Go.Proofs.YtpmapdialjdcbabDoor
namespace Go.Proofs.YtpmapdialjdcbabDoor
open Go.RowKit
open C2 (In Pr SlF SlI InsAt still_of_below below_then)
open K6 (Ky)

set_option maxHeartbeats 2000000 in
set_option maxRecDepth 4000 in
theorem step_2 {E : Ev7} {w : World} {d : Wd} {bt : Nat} {cv : Value} {r : Rs} {t : Ts} {tk : Ky} (h : Pre7 E w d bt cv r t tk) (hg : goesB E.M r t) (ho : (ins7 E.p t).o = 2) : Calls Tryd.prog 43 #[.pointer (some ⟨bt, 0, none⟩)] w fun e w' => StOne E bt cv w d r t e w' := by
  have hx := (h.hp.fn _ h.st.fnm).2.2.2 _ (h.st.insm hg.1)
  have hs := shape_facts hx.1
  have hr := V5.right_iff.1 hx.2
  obtain ⟨g, f, cap, m, rfl, hat, hm, hI⟩ := h.code hg.1
  have HSP := h.spend hg
  have HE : Hid (t.e = en0) := en_zero h.st.tok hg.1
  have hst := h.st
  have hmt := h.mt
  have hati : (t.at_ : Int) < m := by omega
  unfold StOne
  generalize hX : ins7 E.p t = x at *
  obtain ⟨xo, xa, xb, xc⟩ := x
  simp only at ho
  subst ho
  obtain ⟨a, rfl⟩ : ∃ a : Nat, xa = a := ⟨xa.toNat, by have := hs.a0; have := hs.c0; have := hs.b0; simp only at *; omega⟩
  obtain ⟨b, rfl⟩ : ∃ b : Nat, xb = b := ⟨xb.toNat, by have := hs.a0; have := hs.c0; have := hs.b0; simp only at *; omega⟩
  obtain ⟨c, rfl⟩ : ∃ c : Nat, xc = c := ⟨xc.toNat, by have := hs.a0; have := hs.c0; have := hs.b0; simp only at *; omega⟩
  have H : Hid (Pre7 E w d bt (.slice (some ⟨g, f, none⟩) m cap) r t tk) := h
  have HI : Hid (∀ w' d', Wh E w' d' → InsAt w' g (f + t.at_ * 4) ⟨2, a, b, c⟩) := hI
  have HST : Hid (St7 E.p r t tk) := hst
  have HMT : Hid (Mt d r) := hmt
  have ha : a < 8 := by have := hs.r; simp only at this; omega
  have hai : (a : Int) < 8 := by omega
  have hb : b < 8 := by have := hs.b7; simp only at this; omega
  have hbi : (b : Int) < 8 := by omega
  have hc : c < 8 := by have := hs.c7; simp only at this; omega
  have hci : (c : Int) < 8 := by omega
  have HO : Hid ((oneP (up1 r) (down1 t) ⟨2, a, b, c⟩).1 = up1 r ∧ (oneP (up1 r) (down1 t) ⟨2, a, b, c⟩).2 = (down1 t).put a (wrp ((down1 t).reg.getD b 0 + (down1 t).reg.getD c 0))) := by show _ ∧ _; constructor <;> simp [oneP, rg]
  clear h hI hst hmt hx hs hr hX
  go_enter Tryd.func43, Tryd.ntmps43
  go_wp2_with fail
  refine HSP.mono ?_
  rintro e w1 ⟨rfl, hw1, ht1, hF1⟩
  have hMid := Mid7.made (x := ⟨2, a, b, c⟩) hw1 ht1 hF1
  obtain ⟨i0, i1, i2, i3⟩ := HI.out w1 _ hw1
  have c2 := ht1.cellAt 2
  have c3 := ht1.cellAt 3
  have fz3 := ht1.frozen 3
  have hlt := ht1.lt
  simp [tkC] at c2 c3
  simp only at i0 i1 i2 i3 hMid
  have hltg : g < w1.heap.size := block_lt_of_cell i0
  clear HSP
  go_wp2_with fail
  go_region
  go_upto_region 4 with fail
  generalize hW2 : ((w1.setCell ⟨bt, 3, none⟩ (.int .i64 ((t.at_ : Int) + 1))).alloc (.cells #[.int .i64 2, .int .i64 a, .int .i64 b, .int .i64 c] 54)).drew = w2 at *
  generalize hBI : w1.heap.size = bi at *
  clear hW2 i0 i1 i2 i3 c2 c3 fz3 hlt hltg hw1 ht1 hF1 hBI
  obtain ⟨mw, mt, mf, mn, j0, j1, j2, j3⟩ := hMid
  simp only at j0 j1 j2 j3
  have mn2 : bt ≠ bi := fun e => mn e.symm
  have hE1 : Hid ((down1 t).e = en0) := HE.out
  have hlen : Hid ((down1 t).reg.length = 8) := HST.out.reg
  have hR32 : Hid (∀ x ∈ (down1 t).reg, wrp x = x) := HST.out.r32
  have cb := mt.reg hb
  have cc := mt.reg hc
  have ca := mt.reg ha
  have fa := mt.frozen (6 + a)
  have q := fun w => V1.add_any ((down1 t).reg.getD b 0) ((down1 t).reg.getD c 0) w
  rw [v_add (hR32.out _ (getD_mem (by rw [hlen.out]; omega) 0)) (hR32.out _ (getD_mem (by rw [hlen.out]; omega) 0))] at q
  obtain ⟨y, hy⟩ : ∃ y, wrp ((down1 t).reg.getD b 0 + (down1 t).reg.getD c 0) = y := ⟨_, rfl⟩
  have HY : Hid (wrp ((down1 t).reg.getD b 0 + (down1 t).reg.getD c 0) = y) := hy
  rw [hy] at q
  clear hy
  go_wp2_with fail
  go_region_law (go_simp; go_at_call 49; refine (q _).mono ?_; rintro e w3 ⟨rfl, rfl⟩)
  all_goals
    go_wp2_with fail
    exact bodyPost_end (v := .tuple #[]) (by simp [results, Tryd.results43, go_sem]) rfl (st_one (d' := { d with st := d.st + 1 }) HO ⟨.inl ⟨by show t.e.h = 0; rw [HE.out]; rfl, rfl, (by have h := mt.drew.setReg hlen.out ha y; rw [← HY.out] at h; rw [← HY.out]; exact h)⟩, mw.drew.setT mt.drew _ _, mf.drew.setT mt.lo _ _⟩ HMT.out.up rfl)
end Go.Proofs.YtpmapdialjdcbabDoor
namespace Go.Proofs.YtpmapdialjdcbabDoor
open Go.RowKit
open C2 (In Pr SlF SlI InsAt still_of_below below_then)
open K6 (Ky)

set_option maxHeartbeats 2000000 in
set_option maxRecDepth 4000 in
theorem step_3 {E : Ev7} {w : World} {d : Wd} {bt : Nat} {cv : Value} {r : Rs} {t : Ts} {tk : Ky} (h : Pre7 E w d bt cv r t tk) (hg : goesB E.M r t) (ho : (ins7 E.p t).o = 3) : Calls Tryd.prog 43 #[.pointer (some ⟨bt, 0, none⟩)] w fun e w' => StOne E bt cv w d r t e w' := by
  have hx := (h.hp.fn _ h.st.fnm).2.2.2 _ (h.st.insm hg.1)
  have hs := shape_facts hx.1
  have hr := V5.right_iff.1 hx.2
  obtain ⟨g, f, cap, m, rfl, hat, hm, hI⟩ := h.code hg.1
  have HSP := h.spend hg
  have HE : Hid (t.e = en0) := en_zero h.st.tok hg.1
  have hst := h.st
  have hmt := h.mt
  have hati : (t.at_ : Int) < m := by omega
  unfold StOne
  generalize hX : ins7 E.p t = x at *
  obtain ⟨xo, xa, xb, xc⟩ := x
  simp only at ho
  subst ho
  obtain ⟨a, rfl⟩ : ∃ a : Nat, xa = a := ⟨xa.toNat, by have := hs.a0; have := hs.c0; have := hs.b0; simp only at *; omega⟩
  obtain ⟨b, rfl⟩ : ∃ b : Nat, xb = b := ⟨xb.toNat, by have := hs.a0; have := hs.c0; have := hs.b0; simp only at *; omega⟩
  obtain ⟨c, rfl⟩ : ∃ c : Nat, xc = c := ⟨xc.toNat, by have := hs.a0; have := hs.c0; have := hs.b0; simp only at *; omega⟩
  have H : Hid (Pre7 E w d bt (.slice (some ⟨g, f, none⟩) m cap) r t tk) := h
  have HI : Hid (∀ w' d', Wh E w' d' → InsAt w' g (f + t.at_ * 4) ⟨3, a, b, c⟩) := hI
  have HST : Hid (St7 E.p r t tk) := hst
  have HMT : Hid (Mt d r) := hmt
  have ha : a < 8 := by have := hs.r; simp only at this; omega
  have hai : (a : Int) < 8 := by omega
  have hb : b < 8 := by have := hs.b7; simp only at this; omega
  have hbi : (b : Int) < 8 := by omega
  have hc : c < 8 := by have := hs.c7; simp only at this; omega
  have hci : (c : Int) < 8 := by omega
  have HO : Hid ((oneP (up1 r) (down1 t) ⟨3, a, b, c⟩).1 = up1 r ∧ (oneP (up1 r) (down1 t) ⟨3, a, b, c⟩).2 = (down1 t).put a (wrp ((down1 t).reg.getD b 0 - (down1 t).reg.getD c 0))) := by show _ ∧ _; constructor <;> simp [oneP, rg]
  clear h hI hst hmt hx hs hr hX
  go_enter Tryd.func43, Tryd.ntmps43
  go_wp2_with fail
  refine HSP.mono ?_
  rintro e w1 ⟨rfl, hw1, ht1, hF1⟩
  have hMid := Mid7.made (x := ⟨3, a, b, c⟩) hw1 ht1 hF1
  obtain ⟨i0, i1, i2, i3⟩ := HI.out w1 _ hw1
  have c2 := ht1.cellAt 2
  have c3 := ht1.cellAt 3
  have fz3 := ht1.frozen 3
  have hlt := ht1.lt
  simp [tkC] at c2 c3
  simp only at i0 i1 i2 i3 hMid
  have hltg : g < w1.heap.size := block_lt_of_cell i0
  clear HSP
  go_wp2_with fail
  go_region
  go_upto_region 4 with fail
  generalize hW2 : ((w1.setCell ⟨bt, 3, none⟩ (.int .i64 ((t.at_ : Int) + 1))).alloc (.cells #[.int .i64 3, .int .i64 a, .int .i64 b, .int .i64 c] 54)).drew = w2 at *
  generalize hBI : w1.heap.size = bi at *
  clear hW2 i0 i1 i2 i3 c2 c3 fz3 hlt hltg hw1 ht1 hF1 hBI
  obtain ⟨mw, mt, mf, mn, j0, j1, j2, j3⟩ := hMid
  simp only at j0 j1 j2 j3
  have mn2 : bt ≠ bi := fun e => mn e.symm
  have hE1 : Hid ((down1 t).e = en0) := HE.out
  have hlen : Hid ((down1 t).reg.length = 8) := HST.out.reg
  have hR32 : Hid (∀ x ∈ (down1 t).reg, wrp x = x) := HST.out.r32
  have cb := mt.reg hb
  have cc := mt.reg hc
  have ca := mt.reg ha
  have fa := mt.frozen (6 + a)
  have q := fun w => V1.sub_any ((down1 t).reg.getD b 0) ((down1 t).reg.getD c 0) w
  rw [v_sub (hR32.out _ (getD_mem (by rw [hlen.out]; omega) 0)) (hR32.out _ (getD_mem (by rw [hlen.out]; omega) 0))] at q
  obtain ⟨y, hy⟩ : ∃ y, wrp ((down1 t).reg.getD b 0 - (down1 t).reg.getD c 0) = y := ⟨_, rfl⟩
  have HY : Hid (wrp ((down1 t).reg.getD b 0 - (down1 t).reg.getD c 0) = y) := hy
  rw [hy] at q
  clear hy
  go_wp2_with fail
  go_region_law (go_simp; go_at_call 50; refine (q _).mono ?_; rintro e w3 ⟨rfl, rfl⟩)
  all_goals
    go_wp2_with fail
    exact bodyPost_end (v := .tuple #[]) (by simp [results, Tryd.results43, go_sem]) rfl (st_one (d' := { d with st := d.st + 1 }) HO ⟨.inl ⟨by show t.e.h = 0; rw [HE.out]; rfl, rfl, (by have h := mt.drew.setReg hlen.out ha y; rw [← HY.out] at h; rw [← HY.out]; exact h)⟩, mw.drew.setT mt.drew _ _, mf.drew.setT mt.lo _ _⟩ HMT.out.up rfl)
end Go.Proofs.YtpmapdialjdcbabDoor
namespace Go.Proofs.YtpmapdialjdcbabDoor
open Go.RowKit
open C2 (In Pr SlF SlI InsAt still_of_below below_then)
open K6 (Ky)

set_option maxHeartbeats 2000000 in
set_option maxRecDepth 4000 in
theorem step_4 {E : Ev7} {w : World} {d : Wd} {bt : Nat} {cv : Value} {r : Rs} {t : Ts} {tk : Ky} (h : Pre7 E w d bt cv r t tk) (hg : goesB E.M r t) (ho : (ins7 E.p t).o = 4) : Calls Tryd.prog 43 #[.pointer (some ⟨bt, 0, none⟩)] w fun e w' => StOne E bt cv w d r t e w' := by
  have hx := (h.hp.fn _ h.st.fnm).2.2.2 _ (h.st.insm hg.1)
  have hs := shape_facts hx.1
  have hr := V5.right_iff.1 hx.2
  obtain ⟨g, f, cap, m, rfl, hat, hm, hI⟩ := h.code hg.1
  have HSP := h.spend hg
  have HE : Hid (t.e = en0) := en_zero h.st.tok hg.1
  have hst := h.st
  have hmt := h.mt
  have hati : (t.at_ : Int) < m := by omega
  unfold StOne
  generalize hX : ins7 E.p t = x at *
  obtain ⟨xo, xa, xb, xc⟩ := x
  simp only at ho
  subst ho
  obtain ⟨a, rfl⟩ : ∃ a : Nat, xa = a := ⟨xa.toNat, by have := hs.a0; have := hs.c0; have := hs.b0; simp only at *; omega⟩
  obtain ⟨b, rfl⟩ : ∃ b : Nat, xb = b := ⟨xb.toNat, by have := hs.a0; have := hs.c0; have := hs.b0; simp only at *; omega⟩
  obtain ⟨c, rfl⟩ : ∃ c : Nat, xc = c := ⟨xc.toNat, by have := hs.a0; have := hs.c0; have := hs.b0; simp only at *; omega⟩
  have H : Hid (Pre7 E w d bt (.slice (some ⟨g, f, none⟩) m cap) r t tk) := h
  have HI : Hid (∀ w' d', Wh E w' d' → InsAt w' g (f + t.at_ * 4) ⟨4, a, b, c⟩) := hI
  have HST : Hid (St7 E.p r t tk) := hst
  have HMT : Hid (Mt d r) := hmt
  have ha : a < 8 := by have := hs.r; simp only at this; omega
  have hai : (a : Int) < 8 := by omega
  have hb : b < 8 := by have := hs.b7; simp only at this; omega
  have hbi : (b : Int) < 8 := by omega
  have hc : c < 8 := by have := hs.c7; simp only at this; omega
  have hci : (c : Int) < 8 := by omega
  have HO : Hid ((oneP (up1 r) (down1 t) ⟨4, a, b, c⟩).1 = up1 r ∧ (oneP (up1 r) (down1 t) ⟨4, a, b, c⟩).2 = (down1 t).put a (wrp ((down1 t).reg.getD b 0 * (down1 t).reg.getD c 0))) := by show _ ∧ _; constructor <;> simp [oneP, rg]
  clear h hI hst hmt hx hs hr hX
  go_enter Tryd.func43, Tryd.ntmps43
  go_wp2_with fail
  refine HSP.mono ?_
  rintro e w1 ⟨rfl, hw1, ht1, hF1⟩
  have hMid := Mid7.made (x := ⟨4, a, b, c⟩) hw1 ht1 hF1
  obtain ⟨i0, i1, i2, i3⟩ := HI.out w1 _ hw1
  have c2 := ht1.cellAt 2
  have c3 := ht1.cellAt 3
  have fz3 := ht1.frozen 3
  have hlt := ht1.lt
  simp [tkC] at c2 c3
  simp only at i0 i1 i2 i3 hMid
  have hltg : g < w1.heap.size := block_lt_of_cell i0
  clear HSP
  go_wp2_with fail
  go_region
  go_upto_region 4 with fail
  generalize hW2 : ((w1.setCell ⟨bt, 3, none⟩ (.int .i64 ((t.at_ : Int) + 1))).alloc (.cells #[.int .i64 4, .int .i64 a, .int .i64 b, .int .i64 c] 54)).drew = w2 at *
  generalize hBI : w1.heap.size = bi at *
  clear hW2 i0 i1 i2 i3 c2 c3 fz3 hlt hltg hw1 ht1 hF1 hBI
  obtain ⟨mw, mt, mf, mn, j0, j1, j2, j3⟩ := hMid
  simp only at j0 j1 j2 j3
  have mn2 : bt ≠ bi := fun e => mn e.symm
  have hE1 : Hid ((down1 t).e = en0) := HE.out
  have hlen : Hid ((down1 t).reg.length = 8) := HST.out.reg
  have hR32 : Hid (∀ x ∈ (down1 t).reg, wrp x = x) := HST.out.r32
  have cb := mt.reg hb
  have cc := mt.reg hc
  have ca := mt.reg ha
  have fa := mt.frozen (6 + a)
  have q := fun w => V1.mul_any ((down1 t).reg.getD b 0) ((down1 t).reg.getD c 0) w
  rw [v_mul (hR32.out _ (getD_mem (by rw [hlen.out]; omega) 0)) (hR32.out _ (getD_mem (by rw [hlen.out]; omega) 0))] at q
  obtain ⟨y, hy⟩ : ∃ y, wrp ((down1 t).reg.getD b 0 * (down1 t).reg.getD c 0) = y := ⟨_, rfl⟩
  have HY : Hid (wrp ((down1 t).reg.getD b 0 * (down1 t).reg.getD c 0) = y) := hy
  rw [hy] at q
  clear hy
  go_wp2_with fail
  go_region_law (go_simp; go_at_call 51; refine (q _).mono ?_; rintro e w3 ⟨rfl, rfl⟩)
  all_goals
    go_wp2_with fail
    exact bodyPost_end (v := .tuple #[]) (by simp [results, Tryd.results43, go_sem]) rfl (st_one (d' := { d with st := d.st + 1 }) HO ⟨.inl ⟨by show t.e.h = 0; rw [HE.out]; rfl, rfl, (by have h := mt.drew.setReg hlen.out ha y; rw [← HY.out] at h; rw [← HY.out]; exact h)⟩, mw.drew.setT mt.drew _ _, mf.drew.setT mt.lo _ _⟩ HMT.out.up rfl)
end Go.Proofs.YtpmapdialjdcbabDoor
namespace Go.Proofs.YtpmapdialjdcbabDoor
open Go.RowKit
open C2 (In Pr SlF SlI InsAt still_of_below below_then)
open K6 (Ky)

set_option maxHeartbeats 2000000 in
set_option maxRecDepth 4000 in
theorem step_5 {E : Ev7} {w : World} {d : Wd} {bt : Nat} {cv : Value} {r : Rs} {t : Ts} {tk : Ky} (h : Pre7 E w d bt cv r t tk) (hg : goesB E.M r t) (ho : (ins7 E.p t).o = 5) : Calls Tryd.prog 43 #[.pointer (some ⟨bt, 0, none⟩)] w fun e w' => StOne E bt cv w d r t e w' := by
  have hx := (h.hp.fn _ h.st.fnm).2.2.2 _ (h.st.insm hg.1)
  have hs := shape_facts hx.1
  have hr := V5.right_iff.1 hx.2
  obtain ⟨g, f, cap, m, rfl, hat, hm, hI⟩ := h.code hg.1
  have HSP := h.spend hg
  have HE : Hid (t.e = en0) := en_zero h.st.tok hg.1
  have hst := h.st
  have hmt := h.mt
  have hati : (t.at_ : Int) < m := by omega
  unfold StOne
  generalize hX : ins7 E.p t = x at *
  obtain ⟨xo, xa, xb, xc⟩ := x
  simp only at ho
  subst ho
  obtain ⟨a, rfl⟩ : ∃ a : Nat, xa = a := ⟨xa.toNat, by have := hs.a0; have := hs.c0; have := hs.b0; simp only at *; omega⟩
  obtain ⟨b, rfl⟩ : ∃ b : Nat, xb = b := ⟨xb.toNat, by have := hs.a0; have := hs.c0; have := hs.b0; simp only at *; omega⟩
  obtain ⟨c, rfl⟩ : ∃ c : Nat, xc = c := ⟨xc.toNat, by have := hs.a0; have := hs.c0; have := hs.b0; simp only at *; omega⟩
  have H : Hid (Pre7 E w d bt (.slice (some ⟨g, f, none⟩) m cap) r t tk) := h
  have HI : Hid (∀ w' d', Wh E w' d' → InsAt w' g (f + t.at_ * 4) ⟨5, a, b, c⟩) := hI
  have HST : Hid (St7 E.p r t tk) := hst
  have HMT : Hid (Mt d r) := hmt
  have ha : a < 8 := by have := hs.r; simp only at this; omega
  have hb : b < 8 := by have := hs.b7; simp only at this; omega
  have hc : c < 8 := by have := hs.c7; simp only at this; omega
  have HO : Hid ((oneP (up1 r) (down1 t) ⟨5, a, b, c⟩).1 = up1 r ∧ (oneP (up1 r) (down1 t) ⟨5, a, b, c⟩).2 = if rg (down1 t) c = 0 then (down1 t).ends 2 else (down1 t).put a (wrp ((rg (down1 t) b).tdiv (rg (down1 t) c)))) := by show _ ∧ _; by_cases hz : rg (down1 t) c = 0 <;> simp [oneP, hz]
  clear h hI hst hmt hx hs hr hX
  go_enter Tryd.func43, Tryd.ntmps43
  go_wp2_with fail
  refine HSP.mono ?_
  rintro e w1 ⟨rfl, hw1, ht1, hF1⟩
  have hMid := Mid7.made (x := ⟨5, a, b, c⟩) hw1 ht1 hF1
  obtain ⟨i0, i1, i2, i3⟩ := HI.out w1 _ hw1
  have c2 := ht1.cellAt 2
  have c3 := ht1.cellAt 3
  have fz3 := ht1.frozen 3
  have hlt := ht1.lt
  simp [tkC] at c2 c3
  simp only at i0 i1 i2 i3 hMid
  have hltg : g < w1.heap.size := block_lt_of_cell i0
  clear HSP
  go_wp2_with fail
  go_region
  go_upto_region 4 with fail
  generalize hW2 : ((w1.setCell ⟨bt, 3, none⟩ (.int .i64 ((t.at_ : Int) + 1))).alloc (.cells #[.int .i64 5, .int .i64 a, .int .i64 b, .int .i64 c] 54)).drew = w2 at *
  generalize hBI : w1.heap.size = bi at *
  clear hW2 i0 i1 i2 i3 c2 c3 fz3 hlt hltg hw1 ht1 hF1 hBI
  obtain ⟨mw, mt, mf, mn, j0, j1, j2, j3⟩ := hMid
  simp only at j0 j1 j2 j3
  have mn2 : bt ≠ bi := fun e => mn e.symm
  have hE1 : Hid ((down1 t).e = en0) := HE.out
  have hlen : Hid ((down1 t).reg.length = 8) := HST.out.reg
  have hR32 : Hid (∀ x ∈ (down1 t).reg, wrp x = x) := HST.out.r32
  have q := divide_any mw mt hE1.out hlen.out hR32.out ha hb hc
  generalize (if rg (down1 t) c = 0 then (down1 t).ends 2 else (down1 t).put a (wrp ((rg (down1 t) b).tdiv (rg (down1 t) c)))) = t3 at q HO
  go_wp2_with fail
  refine q.mono ?_
  rintro e w3 ⟨hh, hw3, hF3⟩
  rcases hh with ⟨e0, rfl, ht3⟩ | ⟨e0, rfl⟩
  · go_wp2_with fail
    exact bodyPost_end (v := .tuple #[]) (by simp [results, Tryd.results43, go_sem]) rfl (st_one (d' := { d with st := d.st + 1 }) HO ⟨.inl ⟨e0, rfl, ht3⟩, hw3, mf.trans hF3⟩ HMT.out.up rfl)
  · go_wp2_with fail
    exact ⟨rfl, st_one (d' := { d with st := d.st + 1 }) HO ⟨.inr ⟨e0, rfl⟩, hw3, mf.trans hF3⟩ HMT.out.up rfl⟩
end Go.Proofs.YtpmapdialjdcbabDoor
namespace Go.Proofs.YtpmapdialjdcbabDoor
open Go.RowKit
open C2 (In Pr SlF SlI InsAt still_of_below below_then)
open K6 (Ky)

set_option maxHeartbeats 2000000 in
set_option maxRecDepth 4000 in
theorem step_6 {E : Ev7} {w : World} {d : Wd} {bt : Nat} {cv : Value} {r : Rs} {t : Ts} {tk : Ky} (h : Pre7 E w d bt cv r t tk) (hg : goesB E.M r t) (ho : (ins7 E.p t).o = 6) : Calls Tryd.prog 43 #[.pointer (some ⟨bt, 0, none⟩)] w fun e w' => StOne E bt cv w d r t e w' := by
  have hx := (h.hp.fn _ h.st.fnm).2.2.2 _ (h.st.insm hg.1)
  have hs := shape_facts hx.1
  have hr := V5.right_iff.1 hx.2
  obtain ⟨g, f, cap, m, rfl, hat, hm, hI⟩ := h.code hg.1
  have HSP := h.spend hg
  have HE : Hid (t.e = en0) := en_zero h.st.tok hg.1
  have hst := h.st
  have hmt := h.mt
  have hati : (t.at_ : Int) < m := by omega
  unfold StOne
  generalize hX : ins7 E.p t = x at *
  obtain ⟨xo, xa, xb, xc⟩ := x
  simp only at ho
  subst ho
  obtain ⟨a, rfl⟩ : ∃ a : Nat, xa = a := ⟨xa.toNat, by have := hs.a0; have := hs.c0; have := hs.b0; simp only at *; omega⟩
  obtain ⟨b, rfl⟩ : ∃ b : Nat, xb = b := ⟨xb.toNat, by have := hs.a0; have := hs.c0; have := hs.b0; simp only at *; omega⟩
  obtain ⟨c, rfl⟩ : ∃ c : Nat, xc = c := ⟨xc.toNat, by have := hs.a0; have := hs.c0; have := hs.b0; simp only at *; omega⟩
  have H : Hid (Pre7 E w d bt (.slice (some ⟨g, f, none⟩) m cap) r t tk) := h
  have HI : Hid (∀ w' d', Wh E w' d' → InsAt w' g (f + t.at_ * 4) ⟨6, a, b, c⟩) := hI
  have HST : Hid (St7 E.p r t tk) := hst
  have HMT : Hid (Mt d r) := hmt
  have ha : a < 8 := by have := hs.r; simp only at this; omega
  have hai : (a : Int) < 8 := by omega
  have hb : b < 8 := by have := hs.b7; simp only at this; omega
  have hbi : (b : Int) < 8 := by omega
  have hc : c < 8 := by have := hs.c7; simp only at this; omega
  have hci : (c : Int) < 8 := by omega
  have HO : Hid ((oneP (up1 r) (down1 t) ⟨6, a, b, c⟩).1 = up1 r ∧ (oneP (up1 r) (down1 t) ⟨6, a, b, c⟩).2 = (down1 t).put a (lessI ((down1 t).reg.getD b 0) ((down1 t).reg.getD c 0))) := by show _ ∧ _; constructor <;> simp [oneP, rg]
  clear h hI hst hmt hx hs hr hX
  go_enter Tryd.func43, Tryd.ntmps43
  go_wp2_with fail
  refine HSP.mono ?_
  rintro e w1 ⟨rfl, hw1, ht1, hF1⟩
  have hMid := Mid7.made (x := ⟨6, a, b, c⟩) hw1 ht1 hF1
  obtain ⟨i0, i1, i2, i3⟩ := HI.out w1 _ hw1
  have c2 := ht1.cellAt 2
  have c3 := ht1.cellAt 3
  have fz3 := ht1.frozen 3
  have hlt := ht1.lt
  simp [tkC] at c2 c3
  simp only at i0 i1 i2 i3 hMid
  have hltg : g < w1.heap.size := block_lt_of_cell i0
  clear HSP
  go_wp2_with fail
  go_region
  go_upto_region 4 with fail
  generalize hW2 : ((w1.setCell ⟨bt, 3, none⟩ (.int .i64 ((t.at_ : Int) + 1))).alloc (.cells #[.int .i64 6, .int .i64 a, .int .i64 b, .int .i64 c] 54)).drew = w2 at *
  generalize hBI : w1.heap.size = bi at *
  clear hW2 i0 i1 i2 i3 c2 c3 fz3 hlt hltg hw1 ht1 hF1 hBI
  obtain ⟨mw, mt, mf, mn, j0, j1, j2, j3⟩ := hMid
  simp only at j0 j1 j2 j3
  have mn2 : bt ≠ bi := fun e => mn e.symm
  have hE1 : Hid ((down1 t).e = en0) := HE.out
  have hlen : Hid ((down1 t).reg.length = 8) := HST.out.reg
  have hR32 : Hid (∀ x ∈ (down1 t).reg, wrp x = x) := HST.out.r32
  have cb := mt.reg hb
  have cc := mt.reg hc
  have ca := mt.reg ha
  have fa := mt.frozen (6 + a)
  have q := fun w => V1.lessv_any ((down1 t).reg.getD b 0) ((down1 t).reg.getD c 0) w
  rw [v_less (hR32.out _ (getD_mem (by rw [hlen.out]; omega) 0)) (hR32.out _ (getD_mem (by rw [hlen.out]; omega) 0))] at q
  obtain ⟨y, hy⟩ : ∃ y, lessI ((down1 t).reg.getD b 0) ((down1 t).reg.getD c 0) = y := ⟨_, rfl⟩
  have HY : Hid (lessI ((down1 t).reg.getD b 0) ((down1 t).reg.getD c 0) = y) := hy
  rw [hy] at q
  clear hy
  go_wp2_with fail
  go_region_law (go_simp; go_at_call 53; refine (q _).mono ?_; rintro e w3 ⟨rfl, rfl⟩)
  all_goals
    go_wp2_with fail
    exact bodyPost_end (v := .tuple #[]) (by simp [results, Tryd.results43, go_sem]) rfl (st_one (d' := { d with st := d.st + 1 }) HO ⟨.inl ⟨by show t.e.h = 0; rw [HE.out]; rfl, rfl, (by have h := mt.drew.setReg hlen.out ha y; rw [← HY.out] at h; rw [← HY.out]; exact h)⟩, mw.drew.setT mt.drew _ _, mf.drew.setT mt.lo _ _⟩ HMT.out.up rfl)
end Go.Proofs.YtpmapdialjdcbabDoor
namespace Go.Proofs.YtpmapdialjdcbabDoor
open Go.RowKit
open C2 (In Pr SlF SlI InsAt still_of_below below_then)
open K6 (Ky)

set_option maxHeartbeats 2000000 in
set_option maxRecDepth 4000 in
theorem step_7 {E : Ev7} {w : World} {d : Wd} {bt : Nat} {cv : Value} {r : Rs} {t : Ts} {tk : Ky} (h : Pre7 E w d bt cv r t tk) (hg : goesB E.M r t) (ho : (ins7 E.p t).o = 7) : Calls Tryd.prog 43 #[.pointer (some ⟨bt, 0, none⟩)] w fun e w' => StOne E bt cv w d r t e w' := by
  have hx := (h.hp.fn _ h.st.fnm).2.2.2 _ (h.st.insm hg.1)
  have hs := shape_facts hx.1
  have hr := V5.right_iff.1 hx.2
  obtain ⟨g, f, cap, m, rfl, hat, hm, hI⟩ := h.code hg.1
  have HSP := h.spend hg
  have HE : Hid (t.e = en0) := en_zero h.st.tok hg.1
  have hst := h.st
  have hmt := h.mt
  have hati : (t.at_ : Int) < m := by omega
  unfold StOne
  generalize hX : ins7 E.p t = x at *
  obtain ⟨xo, xa, xb, xc⟩ := x
  simp only at ho
  subst ho
  obtain ⟨a, rfl⟩ : ∃ a : Nat, xa = a := ⟨xa.toNat, by have := hs.a0; have := hs.c0; have := hs.b0; simp only at *; omega⟩
  have H : Hid (Pre7 E w d bt (.slice (some ⟨g, f, none⟩) m cap) r t tk) := h
  have HI : Hid (∀ w' d', Wh E w' d' → InsAt w' g (f + t.at_ * 4) ⟨7, a, xb, xc⟩) := hI
  have HST : Hid (St7 E.p r t tk) := hst
  have HMT : Hid (Mt d r) := hmt
  have HO : Hid ((oneP (up1 r) (down1 t) ⟨7, a, xb, xc⟩).1 = up1 r ∧ (oneP (up1 r) (down1 t) ⟨7, a, xb, xc⟩).2 = { down1 t with at_ := a }) := by show _ ∧ _; constructor <;> simp [oneP]
  clear h hI hst hmt hx hs hr hX
  go_enter Tryd.func43, Tryd.ntmps43
  go_wp2_with fail
  refine HSP.mono ?_
  rintro e w1 ⟨rfl, hw1, ht1, hF1⟩
  have hMid := Mid7.made (x := ⟨7, a, xb, xc⟩) hw1 ht1 hF1
  obtain ⟨i0, i1, i2, i3⟩ := HI.out w1 _ hw1
  have c2 := ht1.cellAt 2
  have c3 := ht1.cellAt 3
  have fz3 := ht1.frozen 3
  have hlt := ht1.lt
  simp [tkC] at c2 c3
  simp only at i0 i1 i2 i3 hMid
  have hltg : g < w1.heap.size := block_lt_of_cell i0
  clear HSP
  go_wp2_with fail
  go_region
  go_upto_region 4 with fail
  generalize hW2 : ((w1.setCell ⟨bt, 3, none⟩ (.int .i64 ((t.at_ : Int) + 1))).alloc (.cells #[.int .i64 7, .int .i64 a, .int .i64 xb, .int .i64 xc] 54)).drew = w2 at *
  generalize hBI : w1.heap.size = bi at *
  clear hW2 i0 i1 i2 i3 c2 c3 fz3 hlt hltg hw1 ht1 hF1 hBI
  obtain ⟨mw, mt, mf, mn, j0, j1, j2, j3⟩ := hMid
  simp only at j0 j1 j2 j3
  have mn2 : bt ≠ bi := fun e => mn e.symm
  have hE1 : Hid ((down1 t).e = en0) := HE.out
  have hlen : Hid ((down1 t).reg.length = 8) := HST.out.reg
  have hR32 : Hid (∀ x ∈ (down1 t).reg, wrp x = x) := HST.out.r32
  have c3 := mt.cellAt 3
  have f3 := mt.frozen 3
  simp [tkC] at c3
  go_wp2_with fail
  exact bodyPost_end (v := .tuple #[]) (by simp [results, Tryd.results43, go_sem]) rfl (st_one (d' := { d with st := d.st + 1 }) HO ⟨.inl ⟨by show t.e.h = 0; rw [HE.out]; rfl, rfl, mt.setAt a⟩, mw.setT mt _ _, mf.setT mt.lo _ _⟩ HMT.out.up rfl)
end Go.Proofs.YtpmapdialjdcbabDoor
