/-
  Helpers: Kf.
-/
import Derived.Test.YtopnkfbcphbbiaaDoorBun6a7aa55ae5ef
namespace Go.Proofs.YtopnkfbcphbbiaaDoor
open Go.RowKit
open H8 (okP sizeF HTab below_then placeI placeI_bd place_any)
open A9 (Ab ArAt FrA Ar setRawA rawA storeA retireA retireS useA ptrA Ok9 upN NAt new9 src_one)
open F0 (Pl5 FrS noT plBox plS plS_of Wk)
open S1 (RowO PlS plK plK_ok plK_wk grs)

set_option maxHeartbeats 16000000 in
set_option maxRecDepth 8000 in
theorem keeps_walk (a0 : Int) (ad : Option Addr) (len cap : Nat) (hl : len ≤ 9223372036854775807) (w : World) (hN : NAt w ad len) (hT : HTab w) : Calls Tryd.prog 4 #[.int .i64 a0, .slice ad len cap] w fun e w' => e = .returned (.bool true) ∧ Below w.heap.size w w' := by
  have P0 := fun wx => place_any a0 5 wx (by omega) (by omega)
  have Pv := fun z wx => place_any z 1048576 wx (by omega) (by omega)
  obtain ⟨y, hy, hy4⟩ := place_nat a0 5 (by omega)
  rw [show ((5 : Nat) : Int) = 5 from rfl] at hy
  rw [hy] at P0
  clear hy
  obtain ⟨k, hk⟩ : ∃ n, n = 2 + y := ⟨_, rfl⟩
  have hkI : (2 : Int) + (y : Int) = (k : Int) := by omega
  have hkW : wrap64 (k : Int) = (k : Int) := A9.wr64_id (by omega) (by omega)
  have hk6 : k ≤ 6 := by omega
  have HK : Hid (2 ≤ k ∧ k ≤ 6) := ⟨by omega, by omega⟩
  obtain ⟨X, hX⟩ : ∃ X, X = 4 * k + grs 400 + grs 400 + 1 := ⟨_, rfl⟩
  have hgr : grs 400 = 50 := rfl
  have hXb : X ≤ 200 := by omega
  obtain ⟨p, hp⟩ : ∃ p, p = plK k 400 := ⟨_, rfl⟩
  have kR := fun wx => S1.Raw_k (a := k) (m := 400) (by omega) (by omega) (by omega) wx
  rw [← hX, ← hp] at kR
  unfold Pl5.v at kR
  have kH := fun wx => HRaw_any k X (by omega) wx
  have kN := fun wx (hx : HTab wx) => A9.New_any ((X + 2 * k + 1 : Nat) : Int) 400 false wx hx
  have HB0 : Hid (Kp k X (new9 ((X + 2 * k + 1 : Nat) : Int) 400 false) 0 [] .idle (fun _ => 0) (fun _ => 0) 0) := Kp.begin hk6 (by omega) hX
  generalize new9 ((X + 2 * k + 1 : Nat) : Int) 400 false = s0 at *
  have HP : Hid (p = plK k 400 ∧ PlS (4 * k) (grs 400) p ∧ X ≤ 200) := ⟨hp, by rw [hp]; exact plK_ok (a := k) (m := 400) (by omega) (by omega), hXb⟩
  have e2k : ((2 * k : Nat) : Int) = 2 * (k : Int) := by omega
  have eN : ((X + 2 * k + 1 : Nat) : Int) = (X : Int) + 2 * (k : Int) + 1 := by omega
  rw [e2k] at kH
  rw [eN] at kN
  have HT : Hid (HTab w) := hT
  clear hT hk hy4 hX hp hgr e2k eN
  go_enter Tryd.func4, Tryd.ntmps4
  go_wp2_with fail
  refine (P0 _).mono ?_
  rintro e w ⟨rfl, rfl⟩
  go_wp2_with fail
  refine (kR _).mono ?_
  rintro e w1 ⟨rfl, hb1⟩
  go_wp2_with fail
  refine (kH _).mono ?_
  rintro e w2 ⟨rfl, hb2⟩
  have hTN : HTab (w2.alloc (.cells #[.int .i64 (k : Int), .int .i64 (X : Int)] 28 (0, 0))) := (((HT.out.below hb1).alloc _).below hb2).alloc _
  clear kR kH P0
  go_wp2_with fail
  refine (kN _ hTN).mono ?_
  rintro e w3 ⟨B, rfl, hA3, hb3, hB⟩
  have HM : Hid (Km B w ((w3.alloc (.cells (Array.replicate 7 (.int .i64 0)) 48 (0, 0))).alloc (.cells (Array.replicate 7 (.int .i64 0)) 48 (0, 0))) s0 p k X w1.heap.size w2.heap.size w3.heap.size (w3.heap.size + 1) (w3.heap.size + 2) (fun _ => 0) (fun _ => 0)) := Km.begin HT.out hb1 hb2 hb3 hA3 hB
  clear hb1 hb2 hb3 hA3 hB hTN kN
  go_wp2_with fail
  clear hkI hkW
  obtain ⟨L, hL⟩ : ∃ L, L = w3.heap.size + 2 := ⟨_, rfl⟩
  rw [← hL] at HM
  generalize w1.heap.size = b6 at *
  generalize w2.heap.size = b8 at *
  obtain ⟨w4, hw4⟩ : ∃ w4, w4 = (w3.alloc (.cells #[.int .i64 0, .int .i64 0, .int .i64 0, .int .i64 0, .int .i64 0, .int .i64 0, .int .i64 0] 48 (0, 0))).alloc (.cells #[.int .i64 0, .int .i64 0, .int .i64 0, .int .i64 0, .int .i64 0, .int .i64 0, .int .i64 0] 48 (0, 0)) := ⟨_, rfl⟩
  have HM : Hid (Km B w w4 s0 p k X b6 b8 w3.heap.size (w3.heap.size + 1) L (fun _ => 0) (fun _ => 0)) := by
    rw [hw4]
    exact HM
  have HR : Hid (KxR B w p k X b6 b8 w3.heap.size (w3.heap.size + 1) L (.pointer none) (.pointer none) (.slice none 0 0) 0 w4) := ⟨s0, 0, [], .idle, _, _, HM.out, ⟨rfl, rfl⟩, RowO.nil _ _, HB0.out, Nat.zero_le _, fun x hx => by cases hx⟩
  clear HM HB0 hL
  generalize w3.heap.size + 1 = bH at *
  generalize w3.heap.size = bP at *
  rw [← hw4]
  clear hw4
  go_loopw [14, 15, 16, 17] (fun v14 v15 v16 iv wr => ∃ i : Nat, i ≤ 600 ∧ i ≤ len ∧ iv = .int .i64 i ∧ KxR B w p k X b6 b8 bP bH L v14 v15 v16 i wr) (fun _ _ _ iv _ => 600 - (intOf iv).toNat)
  case atStart => exact ⟨0, by omega, by omega, rfl, HR.out⟩
  case round =>
    obtain ⟨i, hi6, hil, rfl, s, c, rt, md, ph, hd, hK⟩ := hrel
    clear HR
    obtain ⟨wq, rfl⟩ : ∃ W, W = wr := ⟨wr, rfl⟩
    by_cases hlt : i < len ∧ i < 600
    · obtain ⟨hlt, hlt6⟩ := hlt
      obtain ⟨b, o, z, rfl, hcz⟩ := hN.low hK.m.wk.low i hlt
      have HN0 : Hid (NAt w (some ⟨b, o, none⟩) len) := hN
      have hli : (i : Int) < (len : Int) := by omega
      have hli6 : (i : Int) < 600 := by omega
      obtain ⟨v1, v2⟩ := placeI_bd z 1048576 (by omega)
      have Pz := fun wx => Pv z wx
      generalize placeI z 1048576 = v at *
      have hk0 : ¬ (k : Int) = 0 := by have := HK.out; omega
      have hk0b : ((k : Int) == 0) = false := by simp; have := HK.out; omega
      obtain ⟨a, ha, hak⟩ : ∃ a : Nat, v % (k : Int) = (a : Int) ∧ a < k := ⟨(v % (k : Int)).toNat, by have := Int.emod_nonneg v hk0; omega, by have := Int.emod_nonneg v hk0; have := Int.emod_lt_of_pos v (show (0 : Int) < (k : Int) by have := HK.out; omega); omega⟩
      have HY : Hid (Kx B w wq s p k X b6 b8 bP bH L u14 u15 u16 c rt md ph hd i) := hK
      clear hN hK
      go_upto_block 2 with (go_at_call 8; refine (Pz _).mono ?_; rintro e wz ⟨rfl, rfl⟩)
      rw [ha]
      clear ha Pz hcz hk0b hk0 v1 v2
      go_cut [14, 15, 16, 20, 21, 22] (fun v14 v15 v16 _ _ _ wx => KxR B w p k X b6 b8 bP bH L v14 v15 v16 (i + 1) wx)
      case first =>
        by_cases ha0 : a = 0
        · have haz : ((a : Int) == 0) = true := by rw [ha0]; rfl
          clear ha0
          cases md with
          | sc x =>
            as_aux_lemma =>
              obtain ⟨h14, b, base, h15, -⟩ := HY.out.q
              subst h14 h15
              have kS := HY.out.stepS HP.out.2.1 hk6 (by omega)
              generalize b.q = q at *
              go_wp2_with fail
              refine kS.mono ?_
              rintro e w5 ⟨d, rfl, hD⟩
              clear kS
              cases d with
              | false =>
                have HE : Hid (KxR B w p k X b6 b8 bP bH L (.pointer none) (.pointer (some ⟨q, 0, none⟩)) u16 (i + 1) w5) := by
                  obtain ⟨s', x', h⟩ := hD
                  exact ⟨s', c, rt, _, ph, hd, h⟩
                clear hD
                go_wp2_with fail
                go_meet
                exact HE.out
              | true =>
                obtain ⟨s', l, hm, -, hp, hl5, kL⟩ := hD
                have HD : Hid (Km B w w5 s' p k X b6 b8 bP bH L ph hd ∧ Kp k X s' c l .idle ph hd (i + 1) ∧ l.length ≤ 12) := ⟨hm, hp, hl5⟩
                clear hm hp hl5
                go_wp2_with fail
                refine kL.mono ?_
                rintro e w6 ⟨v7, rfl, hr, hb⟩
                have HE : Hid (KxR B w p k X b6 b8 bP bH L (.pointer none) (.pointer none) v7 (i + 1) w6) := ⟨s', c, l, .idle, ph, hd, HD.out.1.below hb, ⟨rfl, rfl⟩, RowO.lower hr HD.out.1.sz, HD.out.2.1, HD.out.2.2, fun x hx => by cases hx⟩
                clear hr hb kL
                go_wp2_with fail
                go_meet
                exact HE.out
          | idle =>
            as_aux_lemma =>
              obtain ⟨h14, h15⟩ := HY.out.q
              subst h14 h15
              have kA := HY.out.ask HP.out.1 (by omega) (by omega)
              unfold Pl5.v at kA
              obtain ⟨d0, d1, d2, d3, d4⟩ := HY.out.m.wk.pl
              go_wp2_with fail
              refine kA.mono ?_
              rintro e w5 ⟨v7, rfl, hK5⟩
              have HE : Hid (KxR B w p k X b6 b8 bP bH L v7 (.pointer none) u16 (i + 1) w5) := ⟨s, c, rt, _, ph, hd, hK5.m, hK5.q, hK5.r, hK5.p.wide (Nat.le_succ _), hK5.lo, hK5.go⟩
              clear hK5 kA d0 d1 d2 d3 d4
              go_wp2_with fail
              go_meet
              exact HE.out
          | al m =>
            obtain ⟨h15, q, al0, t0, h14, -⟩ := HY.out.q
            subst h14 h15
            have kS := HY.out.stepA HP.out.2.1 (by omega)
            clear al0 t0
            go_wp2_with fail
            refine kS.mono ?_
            rintro e w5 ⟨d, rfl, hD⟩
            clear kS
            cases d with
            | false =>
              have HE : Hid (KxR B w p k X b6 b8 bP bH L (.pointer (some ⟨q, 0, none⟩)) (.pointer none) u16 (i + 1) w5) := by
                obtain ⟨s', m', h⟩ := hD
                exact ⟨s', c, rt, _, ph, hd, h⟩
              clear hD
              go_wp2_with fail
              exact ⟨⟨i + 1, by omega, by omega, by go_num, HE.out⟩, by simp [intOf]; omega⟩
            | true =>
              obtain ⟨q', s', al, h14, hAl, hor⟩ := hD
              obtain rfl : q = q' := by injection h14 with h14; injection h14 with h14; injection h14
              have kH := S1.Handle_any hAl
              generalize hhn : al.hn = y at *
              rcases hor with ⟨hy0, hK5⟩ | ⟨hy0, hG⟩
              · as_aux_lemma =>
                  subst hy0
                  rw [show ((0 : Int) != 0) = false from rfl] at kH
                  have HK5 : Hid (Kx B w w5 s' p k X b6 b8 bP bH L (.pointer none) (.pointer none) u16 c rt .idle ph hd (i + 1)) := hK5
                  clear hK5 hAl h14 hhn
                  go_wp2_with fail
                  refine kH.mono ?_
                  rintro e w6 ⟨rfl, hb⟩
                  have HK6 : Hid _ := HK5.out.below hb
                  have kN := Kx.scan HK6.out.m HK6.out.r HK6.out.p (by omega)
                  unfold Pl5.v at kN
                  obtain ⟨a16, cap16, h16⟩ := HK6.out.r.len
                  rw [h16] at kN
                  subst h16
                  obtain ⟨d0, d1, d2, d3, d4⟩ := HK6.out.m.wk.pl
                  have c80 := HK6.out.m.c80
                  have c81 := HK6.out.m.c81
                  have hor : (3 : Int) < (rt.length : Int) ∨ ¬ (3 : Int) < (rt.length : Int) := by omega
                  clear hb kH
                  generalize rt.length = ln at *
                  rcases hor with h3 | h3
                  all_goals
                    go_wp2_with fail
                    refine kN.mono ?_
                    rintro e w7 ⟨v7, rfl, hK7⟩
                    have HE : Hid (KxR B w p k X b6 b8 bP bH L (.pointer none) v7 (.slice a16 ln cap16) (i + 1) w7) := ⟨_, _, _, _, _, _, hK7⟩
                    clear hK7 kN d0 d1 d2 d3 d4 c80 c81
                    go_wp2_with fail
                    go_meet
                    exact HE.out
              · as_aux_lemma =>
                  rw [show (y != 0) = true from by simpa using hy0] at kH
                  have HG : Hid (Kg B w w5 s' p k X b6 b8 bP bH L (.pointer none) u16 c rt ph hd (i + 1) y) := hG
                  clear hG hAl h14 hhn
                  go_wp2_with fail
                  refine kH.mono ?_
                  rintro e w6 ⟨rfl, hb6⟩
                  have HF6 : Hid (FrA B w5 w6) := FrA.of_below hb6
                  have kSt := A9.Store_any (HG.out.m.wk.ar.below hb6) y 0 y
                  clear hb6 kH
                  go_wp2_with fail
                  refine kSt.mono ?_
                  rintro e w7 ⟨rfl, hA7, hF7⟩
                  have HF7 : Hid (FrA B w5 w7) := HF6.out.trans hF7
                  have kRw := HG.out.raw hA7
                  clear kSt hA7 hF7
                  go_wp2_with fail
                  refine kRw.mono ?_
                  rintro e w8 ⟨rfl, hA8, hF8⟩
                  have HF8 : Hid (FrA B w5 w8) := HF7.out.trans hF8
                  have kSR := Kg.setRaw hA8 k X
                  clear kRw hA8 hF8
                  go_wp2_with fail
                  refine kSR.mono ?_
                  rintro e w9 ⟨rfl, hA9, hF9⟩
                  have HF9 : Hid (FrA B w5 w9) := HF8.out.trans hF9
                  have HA9 : Hid _ := hA9
                  clear kSR hA9 hF9
                  by_cases hc : c = 0
                  · subst hc
                    have hfin := HG.out.fin (w' := w9) (by rw [keep_zero]; exact HA9.out) HF9.out (by omega)
                    rw [if_pos rfl] at hfin
                    have HF : Hid _ := hfin
                    have kN := Kx.scan HF.out.1 HF.out.2.1 HF.out.2.2 (by omega)
                    unfold Pl5.v at kN
                    obtain ⟨a16, cap16, h16⟩ := HF.out.2.1.len
                    rw [h16] at kN
                    have HI : Hid (¬ (3 : Int) < ((rt).length : Int) → KxR B w p k X b6 b8 bP bH L (.pointer none) (.pointer none) (.slice a16 (rt).length cap16) (i + 1) w9) := fun h3 => ⟨_, _, rt, .idle, ph, hd, HF.out.1, ⟨rfl, rfl⟩, h16 ▸ HF.out.2.1, HF.out.2.2, by show (rt).length ≤ 12; omega, fun x hx => by cases hx⟩
                    obtain ⟨d0, d1, d2, d3, d4⟩ := HF.out.1.wk.pl
                    have c80 := HF.out.1.c80
                    have c81 := HF.out.1.c81
                    have hor : (3 : Int) < ((rt).length : Int) ∨ ¬ (3 : Int) < ((rt).length : Int) := by omega
                    subst h16
                    clear hfin HF
                    generalize (rt).length = ln at *
                    rcases hor with h3 | h3
                    · go_wp2_with fail
                      refine kN.mono ?_
                      rintro e w17 ⟨v17, rfl, hK17⟩
                      have HE : Hid (KxR B w p k X b6 b8 bP bH L (.pointer none) v17 (.slice a16 ln cap16) (i + 1) w17) := ⟨_, _, _, _, _, _, hK17⟩
                      clear hK17 kN d0 d1 d2 d3 d4 c80 c81
                      go_wp2_with fail
                      go_meet
                      exact HE.out
                    · have HE := HI.out h3
                      have HE : Hid _ := HE
                      clear kN d0 d1 d2 d3 d4 c80 c81
                      go_wp2_with fail
                      go_meet
                      exact HE.out
                  · have hcn : (c == 0) = false := by simpa using hc
                    have kRt := HG.out.retire hc HA9.out
                    have HC : Hid (c ≠ 0) := hc
                    clear hc
                    go_wp2_with fail
                    refine kRt.mono ?_
                    rintro e w10 ⟨rfl, hA10, hF10⟩
                    obtain ⟨hm10, hr10, hp10⟩ := HG.out.fin (w' := w10) hA10 (HF9.out.trans hF10) (by omega)
                    rw [if_neg HC.out] at hp10
                    have hbA : Below w10.heap.size w10 (w10.alloc (.cells #[.int .i64 c] 3 (0, 0))) := (Below.refl _ _).alloc (Nat.le_refl _) _
                    have HQ : Hid (Km B w (w10.alloc (.cells #[.int .i64 c] 3 (0, 0))) (keepS k X s' c y) p k X b6 b8 bP bH L ph hd ∧ RowO (w10.alloc (.cells #[.int .i64 c] 3 (0, 0))) L u16 rt ∧ Kp k X (keepS k X s' c y) y (rt ++ [c]) .idle ph hd (i + 1) ∧ rt.length ≤ 10000) := ⟨hm10.below hbA, hr10.kept fun g hg => hbA.block g (hr10.lt g hg).2, hp10, by have := HG.out.g.few; omega⟩
                    have HSRC : Hid _ := src_one w10 c
                    clear hA10 hF10 hm10 hr10 hp10 hbA kRt
                    have el : (rt ++ [c]).length = rt.length + 1 := by simp
                    have hor : (3 : Int) < (rt.length : Int) + 1 ∨ ¬ (3 : Int) < (rt.length : Int) + 1 := by omega
                    rcases hor with h3 | h3
                    · go_wp2_with (refine list_appK rfl _ _ rfl HQ.out.1 HQ.out.2.1 rfl rfl HSRC.out HQ.out.2.2.2 ?_; intro v11 w11 hm11 hr11; have HM11 : Hid (Km B w w11 (keepS k X s' c y) p k X b6 b8 bP bH L ph hd ∧ RowO w11 L v11 (rt ++ [c])) := ⟨hm11, hr11⟩; obtain ⟨a11, c11, h11⟩ := hr11.len; rw [el] at h11; obtain ⟨d0, d1, d2, d3, d4⟩ := hm11.wk.pl; have c80 := hm11.c80; have c81 := hm11.c81; subst h11; clear hm11 hr11)
                      have kN := Kx.scan HM11.out.1 HM11.out.2 HQ.out.2.2.1 (by omega)
                      unfold Pl5.v at kN
                      refine kN.mono ?_
                      rintro e w17 ⟨v17, rfl, hK17⟩
                      have HE : Hid (KxR B w p k X b6 b8 bP bH L (.pointer none) v17 (.slice a11 (rt.length + 1) c11) (i + 1) w17) := ⟨_, _, _, _, _, _, hK17⟩
                      clear hK17 kN d0 d1 d2 d3 d4 c80 c81
                      go_wp2_with fail
                      go_meet
                      exact HE.out
                    · go_wp2_with (refine list_appK rfl _ _ rfl HQ.out.1 HQ.out.2.1 rfl rfl HSRC.out HQ.out.2.2.2 ?_; intro v11 w11 hm11 hr11; have HM11 : Hid (Km B w w11 (keepS k X s' c y) p k X b6 b8 bP bH L ph hd ∧ RowO w11 L v11 (rt ++ [c])) := ⟨hm11, hr11⟩; obtain ⟨a11, c11, h11⟩ := hr11.len; rw [el] at h11; obtain ⟨d0, d1, d2, d3, d4⟩ := hm11.wk.pl; have c80 := hm11.c80; have c81 := hm11.c81; subst h11; clear hm11 hr11)
                      go_meet
                      exact ⟨_, _, rt ++ [c], .idle, ph, hd, HM11.out.1, ⟨rfl, rfl⟩, HM11.out.2, HQ.out.2.2.1, by show (rt ++ [c]).length ≤ 12; rw [el]; omega, fun x hx => by cases hx⟩
        · obtain ⟨wq, rfl⟩ : ∃ W, W = wz := ⟨wz, rfl⟩
          have haz : ((a : Int) == 0) = false := by
            have : ¬ (a : Int) = 0 := by omega
            simpa using this
          have ha1 : 1 ≤ a := by omega
          have ha7 : a < 7 := by omega
          have haI : (0 : Int) ≤ (a : Int) := by omega
          have haI2 : (a : Int) < 7 := by omega
          have hne1 : bP ≠ bH := by have := HY.out.m.lt; omega
          have hne2 : bH ≠ bP := Ne.symm hne1
          have hX200 : X ≤ 200 := hXb
          have HY : Hid (Kx B w wq s p k X b6 b8 bP bH L u14 u15 u16 c rt md ph hd (i + 1)) := ⟨HY.out.m, HY.out.q, HY.out.r, HY.out.p.wide (Nat.le_succ _), HY.out.lo, HY.out.go⟩
          obtain ⟨⟨r1, r2⟩, -⟩ := HY.out.p.rd a ha1 hak
          have cP : wq.cell? ⟨bP, a, none⟩ = some (.int .i64 (ph a)) := HY.out.m.pr.cell ha7
          have cH : wq.cell? ⟨bH, a, none⟩ = some (.int .i64 (hd a)) := HY.out.m.hr.cell ha7
          have fP : wq.frozen? ⟨bP, a, none⟩ = false := HY.out.m.pr.frozen _
          have hor : ph a = 0 ∨ ph a = 1 ∨ ph a = 2 ∨ (3 ≤ ph a ∧ ph a < 6) ∨ ph a = 6 := by omega
          clear ha0
          rcases hor with e0 | e0 | e0 | ⟨e0, e1⟩ | e0
          · as_aux_lemma =>
              rw [e0] at cP
              have kRw := HY.out.raw HY.out.m.wk.ar
              clear r1 r2 e0
              go_wp2_with fail
              refine kRw.mono ?_
              rintro e w5 ⟨rfl, hA5, hF5⟩
              have HK5 : Hid (Kx B w w5 (useA s) p k X b6 b8 bP bH L u14 u15 u16 c rt md ph hd (i + 1)) := HY.out.arena hA5 hF5 HY.out.p.use
              have cP5 : w5.cell? ⟨bP, a, none⟩ = some (.int .i64 (ph a)) := HK5.out.m.pr.cell ha7
              have cH5 : w5.cell? ⟨bH, a, none⟩ = some (.int .i64 (hd a)) := HK5.out.m.hr.cell ha7
              have fP5 : w5.frozen? ⟨bP, a, none⟩ = false := HK5.out.m.pr.frozen _
              have fH5 : w5.frozen? ⟨bH, a, none⟩ = false := HK5.out.m.hr.frozen _
              have HE : Hid (KxR B w p k X b6 b8 bP bH L u14 u15 u16 (i + 1) ((w5.setCell ⟨bH, a, none⟩ (.int .i64 c)).setCell ⟨bP, a, none⟩ (.int .i64 1))) := ⟨_, _, _, _, _, _, HK5.out.setHP a c 1 HY.out.p.rd0⟩
              clear kRw hA5 hF5 cP cH fP
              go_wp2_with fail
              go_meet
              exact HE.out
          · as_aux_lemma =>
              rw [e0] at cP
              have kWd := fun wx => word_K hX200 hak hk6 wx
              have HSR : Hid (∀ wx, ArAt B wx s → Calls Tryd.prog 11 #[ptrA B, .int .i64 ((X + 2 * a : Nat) : Int), .int .i64 (hd a)] wx (A9.Left9 B wx (.tuple #[]) (setRawA s ((X + 2 * a : Nat) : Int) (hd a)))) := fun wx hx => A9.SetRaw_any hx _ _
              have HRD : Hid (Kp k X (setRawA s ((X + 2 * a : Nat) : Int) (hd a)) c rt md (upN ph a 2) hd (i + 1)) := HY.out.p.rd1 hak
              have HS1 : Hid (Still k X s (setRawA s ((X + 2 * a : Nat) : Int) (hd a))) := Still.set HY.out.p.nr (by omega) _
              generalize hs1 : setRawA s ((X + 2 * a : Nat) : Int) (hd a) = s1 at *
              generalize ((X + 2 * a : Nat) : Int) = xa at *
              have c80 := HY.out.m.c80
              have c81 := HY.out.m.c81
              clear r1 r2 e0 hs1
              go_wp2_with fail
              go_region_held3 (fun w' => w'.cell? ⟨b8, 0, none⟩ = some (.int .i64 (k : Int)) ∧ w'.cell? ⟨b8, 1, none⟩ = some (.int .i64 (X : Int)) ∧ w'.cell? ⟨bH, a, none⟩ = some (.int .i64 (hd a))) (first | exact ⟨c80, c81, cH⟩ | exact hS1 | exact hS2) (first
                | (go_at_call 12; refine (kWd _).mono ?_; rintro e w5 ⟨rfl, hb5⟩; have HM5 : Hid (Km B w w5 s p k X b6 b8 bP bH L ph hd ∧ FrA B wq w5) := ⟨HY.out.m.below (below_then (Below.refl _ _).drew hb5), FrA.of_below (below_then (Below.refl _ _).drew hb5)⟩; have hS1 := (show _ ∧ _ ∧ _ from ⟨HM5.out.1.c80, HM5.out.1.c81, HM5.out.1.hr.cell ha7⟩); clear hb5)
                | (go_at_call 11; refine (HSR.out _ (by first | exact HM5.out.1.wk.ar | exact HM5.out.1.wk.ar.below (Below.refl _ _).drew)).mono ?_; rintro e w6 ⟨rfl, hA6, hF6⟩; have HM6 : Hid (Km B w w6 s1 p k X b6 b8 bP bH L ph hd ∧ ArAt B w6 s1 ∧ FrA B wq w6) := ⟨(by first | exact HM5.out.1.arena hA6 hF6 | exact (HM5.out.1.below (Below.refl _ _).drew).arena hA6 hF6), hA6, (by first | exact HM5.out.2.trans hF6 | exact (HM5.out.2.trans (FrA.of_below (Below.refl _ _).drew)).trans hF6)⟩; have hS2 := (show _ ∧ _ ∧ _ from ⟨HM6.out.1.c80, HM6.out.1.c81, HM6.out.1.hr.cell ha7⟩); clear hA6 hF6))
              clear kWd c80 c81 hS1 hS2 HM5 HSR cH
              have cP6 : w6.cell? ⟨bP, a, none⟩ = some (.int .i64 (ph a)) := HM6.out.1.pr.cell ha7
              have fP6 : w6.frozen? ⟨bP, a, none⟩ = false := HM6.out.1.pr.frozen _
              have HE : Hid (KxR B w p k X b6 b8 bP bH L u14 u15 u16 (i + 1) (w6.setCell ⟨bP, a, none⟩ (.int .i64 2))) := ⟨_, _, _, _, _, _, HY.out.armP HM6.out.1 HM6.out.2.2 a 2 HRD.out⟩
              clear cP fP
              go_wp2_with fail
              go_meet
              exact HE.out
          · as_aux_lemma =>
              rw [e0] at cP
              have hp2 := e0
              obtain ⟨w5, hw5⟩ : ∃ w5, w5 = wq.setCell ⟨bP, a, none⟩ (.int .i64 0) := ⟨_, rfl⟩
              have HK5 : Hid (Kx B w w5 s p k X b6 b8 bP bH L u14 u15 u16 c rt md (upN ph a 0) hd (i + 1)) := by
                rw [hw5]
                exact HY.out.setP a 0 (HY.out.p.rdB (Still.refl _ _ _) fun _ _ _ => rfl)
              have cH5 : w5.cell? ⟨bH, a, none⟩ = some (.int .i64 (hd a)) := HK5.out.m.hr.cell ha7
              have kRw := fun wx (hx : ArAt B wx s) => HK5.out.raw hx
              have HP2 : Hid (ph a = 2) := e0
              clear r1 r2 e0 hp2
              go_wp2_with fail
              rw [← hw5]
              clear hw5 cP fP cH
              by_cases hce : c = hd a
              · rw [hce] at kRw
                have HCE : Hid (c = hd a) := hce
                clear hce
                by_cases hz : hd a = 0
                · have hzb : (hd a != 0) = false := by simpa using hz
                  have HZ : Hid (hd a = 0) := hz
                  clear hz
                  refine wp_region_held_drew (S := fun w' => w'.cell? ⟨bH, a, none⟩ = some (.int .i64 (hd a))) (by kernel_rfl) cH5 (fun _ => ?_)
                  refine wpAnyH_take (i := 0) (oi := { dst := some 175, op := Op.move (Operand.tmp 10), type := 24, pos := "law.go:156", after := #[], guard := none }) (v := ptrA B) (by kernel_rfl) (by kernel_rfl) (by kernel_rfl) (by kernel_rfl) (fun _ _ _ h => h) (.inl ⟨by kernel_rfl, fun w hw => by kernel_rfl⟩) cH5 ?_
                  refine wpAnyH_take (i := 1) (oi := { dst := some 176, op := Op.move (Operand.tmp 11), type := 3, pos := "law.go:156", after := #[], guard := none }) (v := .int .i64 ((X : Int) + 2 * (k : Int))) (by kernel_rfl) (by kernel_rfl) (by kernel_rfl) (by kernel_rfl) (fun _ _ _ h => h) (.inl ⟨by kernel_rfl, fun w hw => by kernel_rfl⟩) cH5 ?_
                  refine wpAnyH_take (i := 3) (oi := { dst := some 178, op := Op.move (Operand.tmp 19), type := 3, pos := "law.go:156", after := #[], guard := none }) (v := .int .i64 (a : Int)) (by kernel_rfl) (by kernel_rfl) (by kernel_rfl) (by kernel_rfl) (fun _ _ _ h => h) (.inl ⟨by kernel_rfl, fun w hw => by kernel_rfl⟩) cH5 ?_
                  refine wpAnyH_take (i := 4) (oi := { dst := some 179, op := Op.indexAddr 48 (Operand.tmp 13) (Operand.tmp 178), type := 0, pos := "law.go:156", after := #[{ on := 3, ground := Ground.data }], guard := none }) (v := .pointer (some ⟨bH, a, none⟩)) (by kernel_rfl) (by kernel_rfl) (by kernel_rfl) (by kernel_rfl) (fun _ _ _ h => h) (.inl ⟨by kernel_rfl, fun w hw => by go_simp⟩) cH5 ?_
                  refine wpAnyH_take (i := 5) (oi := { dst := some 180, op := Op.load 3 (Operand.tmp 179), type := 3, pos := "law.go:156", after := #[{ on := 4, ground := Ground.data }], guard := none }) (v := .int .i64 (hd a)) (by kernel_rfl) (by kernel_rfl) (by kernel_rfl) (by kernel_rfl) (fun _ _ _ h => h) (.inl ⟨by kernel_rfl, fun w hw => by go_simp⟩) cH5 ?_
                  refine wpAnyH_one (i := 2) (o := { dst := some 177, op := Op.call { callee := Callee.value (Operand.func 28), args := #[Operand.tmp 175, Operand.tmp 176], argTypes := #[24, 3] }, type := 3, pos := "law.go:156", after := #[{ on := 0, ground := Ground.data }, { on := 1, ground := Ground.data }], guard := none }) (by kernel_rfl) (by kernel_rfl) (by kernel_rfl) ?_
                  go_wp2_with fail
                  refine (kRw _ (HK5.out.m.wk.ar.below (Below.refl _ _).drew)).mono ?_
                  rintro e w6 ⟨rfl, hA6, hF6⟩
                  have HK6 : Hid (Kx B w w6 (useA s) p k X b6 b8 bP bH L u14 u15 u16 c rt md (upN ph a 0) hd (i + 1)) := (HK5.out.below (Below.refl _ _).drew).arena hA6 hF6 HK5.out.p.use
                  have cH6 : w6.cell? ⟨bH, a, none⟩ = some (.int .i64 (hd a)) := HK6.out.m.hr.cell ha7
                  clear hA6 hF6 cH5
                  go_wp2_with fail
                  refine wpAnyH_one (i := 6) (o := { dst := some 181, op := Op.binOp BinOp.eql 3 (Operand.tmp 177) (Operand.tmp 180) 3, type := 4, pos := "law.go:156", after := #[{ on := 2, ground := Ground.data }, { on := 5, ground := Ground.data }], guard := none }) (by kernel_rfl) (by kernel_rfl) (by kernel_rfl) ?_
                  go_wp2_with fail
                  refine wpAnyH_one (i := 7) (o := { dst := some 182, op := Op.move (Operand.tmp 181), type := 4, pos := "law.go:156", after := #[{ on := 6, ground := Ground.data }, { on := 2, ground := Ground.chain }], guard := none }) (by kernel_rfl) (by kernel_rfl) (by kernel_rfl) ?_
                  go_wp2_with fail
                  refine wpAnyH_one (i := 8) (o := { dst := some 183, op := Op.move (Operand.tmp 19), type := 3, pos := "law.go:156", after := #[{ on := 7, ground := Ground.guard }], guard := some (7, true) }) (by kernel_rfl) (by kernel_rfl) (by kernel_rfl) ?_
                  go_wp2_with fail
                  refine wpAnyH_one (i := 9) (o := { dst := some 184, op := Op.indexAddr 48 (Operand.tmp 13) (Operand.tmp 183), type := 0, pos := "law.go:156", after := #[{ on := 8, ground := Ground.data }, { on := 7, ground := Ground.guard }], guard := some (7, true) }) (by kernel_rfl) (by kernel_rfl) (by kernel_rfl) ?_
                  go_wp2_with fail
                  refine wpAnyH_one (i := 10) (o := { dst := some 185, op := Op.load 3 (Operand.tmp 184), type := 3, pos := "law.go:156", after := #[{ on := 9, ground := Ground.data }, { on := 7, ground := Ground.guard }], guard := some (7, true) }) (by kernel_rfl) (by kernel_rfl) (by kernel_rfl) ?_
                  go_wp2_with fail
                  refine wpAnyH_one (i := 11) (o := { dst := some 186, op := Op.binOp BinOp.neq 3 (Operand.tmp 185) (Operand.const (Value.int IntKind.i64 0)) 3, type := 4, pos := "law.go:156", after := #[{ on := 10, ground := Ground.data }, { on := 7, ground := Ground.guard }], guard := some (7, true) }) (by kernel_rfl) (by kernel_rfl) (by kernel_rfl) ?_
                  go_wp2_with fail
                  refine wpAnyH_one (i := 12) (o := { dst := some 187, op := Op.pick (Operand.tmp 182) (Operand.tmp 186) (Operand.const (Value.bool false)), type := 4, pos := "law.go:156", after := #[{ on := 7, ground := Ground.data }, { on := 11, ground := Ground.data }], guard := none }) (by kernel_rfl) (by kernel_rfl) (by kernel_rfl) ?_
                  go_wp2_with fail
                  refine wpAnyH_done (by kernel_rfl) ?_ _
                  have HE : Hid (KxR B w p k X b6 b8 bP bH L u14 u15 u16 (i + 1) w6) := ⟨_, _, _, _, _, _, HK6.out⟩
                  clear cH6 kRw hzb
                  go_wp2_with fail
                  go_meet
                  exact HE.out
                · have hzb : (hd a != 0) = true := by simpa using hz
                  have HZ : Hid (hd a ≠ 0) := hz
                  clear hz
                  refine wp_region_held_drew (S := fun w' => w'.cell? ⟨bH, a, none⟩ = some (.int .i64 (hd a))) (by kernel_rfl) cH5 (fun _ => ?_)
                  refine wpAnyH_take (i := 0) (oi := { dst := some 175, op := Op.move (Operand.tmp 10), type := 24, pos := "law.go:156", after := #[], guard := none }) (v := ptrA B) (by kernel_rfl) (by kernel_rfl) (by kernel_rfl) (by kernel_rfl) (fun _ _ _ h => h) (.inl ⟨by kernel_rfl, fun w hw => by kernel_rfl⟩) cH5 ?_
                  refine wpAnyH_take (i := 1) (oi := { dst := some 176, op := Op.move (Operand.tmp 11), type := 3, pos := "law.go:156", after := #[], guard := none }) (v := .int .i64 ((X : Int) + 2 * (k : Int))) (by kernel_rfl) (by kernel_rfl) (by kernel_rfl) (by kernel_rfl) (fun _ _ _ h => h) (.inl ⟨by kernel_rfl, fun w hw => by kernel_rfl⟩) cH5 ?_
                  refine wpAnyH_take (i := 3) (oi := { dst := some 178, op := Op.move (Operand.tmp 19), type := 3, pos := "law.go:156", after := #[], guard := none }) (v := .int .i64 (a : Int)) (by kernel_rfl) (by kernel_rfl) (by kernel_rfl) (by kernel_rfl) (fun _ _ _ h => h) (.inl ⟨by kernel_rfl, fun w hw => by kernel_rfl⟩) cH5 ?_
                  refine wpAnyH_take (i := 4) (oi := { dst := some 179, op := Op.indexAddr 48 (Operand.tmp 13) (Operand.tmp 178), type := 0, pos := "law.go:156", after := #[{ on := 3, ground := Ground.data }], guard := none }) (v := .pointer (some ⟨bH, a, none⟩)) (by kernel_rfl) (by kernel_rfl) (by kernel_rfl) (by kernel_rfl) (fun _ _ _ h => h) (.inl ⟨by kernel_rfl, fun w hw => by go_simp⟩) cH5 ?_
                  refine wpAnyH_take (i := 5) (oi := { dst := some 180, op := Op.load 3 (Operand.tmp 179), type := 3, pos := "law.go:156", after := #[{ on := 4, ground := Ground.data }], guard := none }) (v := .int .i64 (hd a)) (by kernel_rfl) (by kernel_rfl) (by kernel_rfl) (by kernel_rfl) (fun _ _ _ h => h) (.inl ⟨by kernel_rfl, fun w hw => by go_simp⟩) cH5 ?_
                  refine wpAnyH_one (i := 2) (o := { dst := some 177, op := Op.call { callee := Callee.value (Operand.func 28), args := #[Operand.tmp 175, Operand.tmp 176], argTypes := #[24, 3] }, type := 3, pos := "law.go:156", after := #[{ on := 0, ground := Ground.data }, { on := 1, ground := Ground.data }], guard := none }) (by kernel_rfl) (by kernel_rfl) (by kernel_rfl) ?_
                  go_wp2_with fail
                  refine (kRw _ (HK5.out.m.wk.ar.below (Below.refl _ _).drew)).mono ?_
                  rintro e w6 ⟨rfl, hA6, hF6⟩
                  have HK6 : Hid (Kx B w w6 (useA s) p k X b6 b8 bP bH L u14 u15 u16 c rt md (upN ph a 0) hd (i + 1)) := (HK5.out.below (Below.refl _ _).drew).arena hA6 hF6 HK5.out.p.use
                  have cH6 : w6.cell? ⟨bH, a, none⟩ = some (.int .i64 (hd a)) := HK6.out.m.hr.cell ha7
                  clear hA6 hF6 cH5
                  go_wp2_with fail
                  refine wpAnyH_one (i := 6) (o := { dst := some 181, op := Op.binOp BinOp.eql 3 (Operand.tmp 177) (Operand.tmp 180) 3, type := 4, pos := "law.go:156", after := #[{ on := 2, ground := Ground.data }, { on := 5, ground := Ground.data }], guard := none }) (by kernel_rfl) (by kernel_rfl) (by kernel_rfl) ?_
                  go_wp2_with fail
                  refine wpAnyH_one (i := 7) (o := { dst := some 182, op := Op.move (Operand.tmp 181), type := 4, pos := "law.go:156", after := #[{ on := 6, ground := Ground.data }, { on := 2, ground := Ground.chain }], guard := none }) (by kernel_rfl) (by kernel_rfl) (by kernel_rfl) ?_
                  go_wp2_with fail
                  refine wpAnyH_one (i := 8) (o := { dst := some 183, op := Op.move (Operand.tmp 19), type := 3, pos := "law.go:156", after := #[{ on := 7, ground := Ground.guard }], guard := some (7, true) }) (by kernel_rfl) (by kernel_rfl) (by kernel_rfl) ?_
                  go_wp2_with fail
                  refine wpAnyH_one (i := 9) (o := { dst := some 184, op := Op.indexAddr 48 (Operand.tmp 13) (Operand.tmp 183), type := 0, pos := "law.go:156", after := #[{ on := 8, ground := Ground.data }, { on := 7, ground := Ground.guard }], guard := some (7, true) }) (by kernel_rfl) (by kernel_rfl) (by kernel_rfl) ?_
                  go_wp2_with fail
                  refine wpAnyH_one (i := 10) (o := { dst := some 185, op := Op.load 3 (Operand.tmp 184), type := 3, pos := "law.go:156", after := #[{ on := 9, ground := Ground.data }, { on := 7, ground := Ground.guard }], guard := some (7, true) }) (by kernel_rfl) (by kernel_rfl) (by kernel_rfl) ?_
                  go_wp2_with fail
                  refine wpAnyH_one (i := 11) (o := { dst := some 186, op := Op.binOp BinOp.neq 3 (Operand.tmp 185) (Operand.const (Value.int IntKind.i64 0)) 3, type := 4, pos := "law.go:156", after := #[{ on := 10, ground := Ground.data }, { on := 7, ground := Ground.guard }], guard := some (7, true) }) (by kernel_rfl) (by kernel_rfl) (by kernel_rfl) ?_
                  go_wp2_with fail
                  refine wpAnyH_one (i := 12) (o := { dst := some 187, op := Op.pick (Operand.tmp 182) (Operand.tmp 186) (Operand.const (Value.bool false)), type := 4, pos := "law.go:156", after := #[{ on := 7, ground := Ground.data }, { on := 11, ground := Ground.data }], guard := none }) (by kernel_rfl) (by kernel_rfl) (by kernel_rfl) ?_
                  go_wp2_with fail
                  refine wpAnyH_done (by kernel_rfl) ?_ _
                  have cP6 : w6.cell? ⟨bP, a, none⟩ = some (.int .i64 (upN ph a 0 a)) := HK6.out.m.pr.cell ha7
                  have fP6 : w6.frozen? ⟨bP, a, none⟩ = false := HK6.out.m.pr.frozen _
                  have HE : Hid (KxR B w p k X b6 b8 bP bH L u14 u15 u16 (i + 1) (w6.setCell ⟨bP, a, none⟩ (.int .i64 3))) := ⟨_, _, _, _, _, _, HK6.out.setP a 3 (by rw [upN_up]; exact HY.out.p.rd2 ha1 hak HP2.out HCE.out HZ.out)⟩
                  clear cH6 kRw hzb
                  go_wp2_with fail
                  go_meet
                  exact HE.out
              · have hcb : (c == hd a) = false := by simpa using hce
                have HCE : Hid (c ≠ hd a) := hce
                clear hce
                refine wp_region_held_drew (S := fun w' => w'.cell? ⟨bH, a, none⟩ = some (.int .i64 (hd a))) (by kernel_rfl) cH5 (fun _ => ?_)
                refine wpAnyH_take (i := 0) (oi := { dst := some 175, op := Op.move (Operand.tmp 10), type := 24, pos := "law.go:156", after := #[], guard := none }) (v := ptrA B) (by kernel_rfl) (by kernel_rfl) (by kernel_rfl) (by kernel_rfl) (fun _ _ _ h => h) (.inl ⟨by kernel_rfl, fun w hw => by kernel_rfl⟩) cH5 ?_
                refine wpAnyH_take (i := 1) (oi := { dst := some 176, op := Op.move (Operand.tmp 11), type := 3, pos := "law.go:156", after := #[], guard := none }) (v := .int .i64 ((X : Int) + 2 * (k : Int))) (by kernel_rfl) (by kernel_rfl) (by kernel_rfl) (by kernel_rfl) (fun _ _ _ h => h) (.inl ⟨by kernel_rfl, fun w hw => by kernel_rfl⟩) cH5 ?_
                refine wpAnyH_take (i := 3) (oi := { dst := some 178, op := Op.move (Operand.tmp 19), type := 3, pos := "law.go:156", after := #[], guard := none }) (v := .int .i64 (a : Int)) (by kernel_rfl) (by kernel_rfl) (by kernel_rfl) (by kernel_rfl) (fun _ _ _ h => h) (.inl ⟨by kernel_rfl, fun w hw => by kernel_rfl⟩) cH5 ?_
                refine wpAnyH_take (i := 4) (oi := { dst := some 179, op := Op.indexAddr 48 (Operand.tmp 13) (Operand.tmp 178), type := 0, pos := "law.go:156", after := #[{ on := 3, ground := Ground.data }], guard := none }) (v := .pointer (some ⟨bH, a, none⟩)) (by kernel_rfl) (by kernel_rfl) (by kernel_rfl) (by kernel_rfl) (fun _ _ _ h => h) (.inl ⟨by kernel_rfl, fun w hw => by go_simp⟩) cH5 ?_
                refine wpAnyH_take (i := 5) (oi := { dst := some 180, op := Op.load 3 (Operand.tmp 179), type := 3, pos := "law.go:156", after := #[{ on := 4, ground := Ground.data }], guard := none }) (v := .int .i64 (hd a)) (by kernel_rfl) (by kernel_rfl) (by kernel_rfl) (by kernel_rfl) (fun _ _ _ h => h) (.inl ⟨by kernel_rfl, fun w hw => by go_simp⟩) cH5 ?_
                refine wpAnyH_one (i := 2) (o := { dst := some 177, op := Op.call { callee := Callee.value (Operand.func 28), args := #[Operand.tmp 175, Operand.tmp 176], argTypes := #[24, 3] }, type := 3, pos := "law.go:156", after := #[{ on := 0, ground := Ground.data }, { on := 1, ground := Ground.data }], guard := none }) (by kernel_rfl) (by kernel_rfl) (by kernel_rfl) ?_
                go_wp2_with fail
                refine (kRw _ (HK5.out.m.wk.ar.below (Below.refl _ _).drew)).mono ?_
                rintro e w6 ⟨rfl, hA6, hF6⟩
                have HK6 : Hid (Kx B w w6 (useA s) p k X b6 b8 bP bH L u14 u15 u16 c rt md (upN ph a 0) hd (i + 1)) := (HK5.out.below (Below.refl _ _).drew).arena hA6 hF6 HK5.out.p.use
                have cH6 : w6.cell? ⟨bH, a, none⟩ = some (.int .i64 (hd a)) := HK6.out.m.hr.cell ha7
                clear hA6 hF6 cH5
                go_wp2_with fail
                refine wpAnyH_one (i := 6) (o := { dst := some 181, op := Op.binOp BinOp.eql 3 (Operand.tmp 177) (Operand.tmp 180) 3, type := 4, pos := "law.go:156", after := #[{ on := 2, ground := Ground.data }, { on := 5, ground := Ground.data }], guard := none }) (by kernel_rfl) (by kernel_rfl) (by kernel_rfl) ?_
                go_wp2_with fail
                refine wpAnyH_one (i := 7) (o := { dst := some 182, op := Op.move (Operand.tmp 181), type := 4, pos := "law.go:156", after := #[{ on := 6, ground := Ground.data }, { on := 2, ground := Ground.chain }], guard := none }) (by kernel_rfl) (by kernel_rfl) (by kernel_rfl) ?_
                go_wp2_with fail
                refine wpAnyH_take (i := 8) (oi := { dst := some 183, op := Op.move (Operand.tmp 19), type := 3, pos := "law.go:156", after := #[{ on := 7, ground := Ground.guard }], guard := some (7, true) }) (v := undef) (by kernel_rfl) (by kernel_rfl) (by kernel_rfl) (by kernel_rfl) (fun _ _ _ h => h) (.inr ⟨by kernel_rfl, rfl⟩) cH6 ?_
                refine wpAnyH_take (i := 9) (oi := { dst := some 184, op := Op.indexAddr 48 (Operand.tmp 13) (Operand.tmp 183), type := 0, pos := "law.go:156", after := #[{ on := 8, ground := Ground.data }, { on := 7, ground := Ground.guard }], guard := some (7, true) }) (v := undef) (by kernel_rfl) (by kernel_rfl) (by kernel_rfl) (by kernel_rfl) (fun _ _ _ h => h) (.inr ⟨by kernel_rfl, rfl⟩) cH6 ?_
                refine wpAnyH_take (i := 10) (oi := { dst := some 185, op := Op.load 3 (Operand.tmp 184), type := 3, pos := "law.go:156", after := #[{ on := 9, ground := Ground.data }, { on := 7, ground := Ground.guard }], guard := some (7, true) }) (v := undef) (by kernel_rfl) (by kernel_rfl) (by kernel_rfl) (by kernel_rfl) (fun _ _ _ h => h) (.inr ⟨by kernel_rfl, rfl⟩) cH6 ?_
                refine wpAnyH_take (i := 11) (oi := { dst := some 186, op := Op.binOp BinOp.neq 3 (Operand.tmp 185) (Operand.const (Value.int IntKind.i64 0)) 3, type := 4, pos := "law.go:156", after := #[{ on := 10, ground := Ground.data }, { on := 7, ground := Ground.guard }], guard := some (7, true) }) (v := undef) (by kernel_rfl) (by kernel_rfl) (by kernel_rfl) (by kernel_rfl) (fun _ _ _ h => h) (.inr ⟨by kernel_rfl, rfl⟩) cH6 ?_
                refine wpAnyH_one (i := 12) (o := { dst := some 187, op := Op.pick (Operand.tmp 182) (Operand.tmp 186) (Operand.const (Value.bool false)), type := 4, pos := "law.go:156", after := #[{ on := 7, ground := Ground.data }, { on := 11, ground := Ground.data }], guard := none }) (by kernel_rfl) (by kernel_rfl) (by kernel_rfl) ?_
                go_wp2_with fail
                refine wpAnyH_done (by kernel_rfl) ?_ _
                have HE : Hid (KxR B w p k X b6 b8 bP bH L u14 u15 u16 (i + 1) w6) := ⟨_, _, _, _, _, _, HK6.out⟩
                clear cH6 kRw hcb
                go_wp2_with fail
                go_meet
                exact HE.out
          · as_aux_lemma =>
              have kLd := fun wx (hx : ArAt B wx s) => HY.out.load ha1 hak e0 hx
              have HRD : Hid (Kp k X (useA s) c rt md (upN ph a (ph a + 1)) hd (i + 1)) := HY.out.p.rd3 ha1 hak e0 e1
              obtain ⟨f, hf⟩ : ∃ f, f = ph a := ⟨_, rfl⟩
              rw [← hf] at cP HRD e0 e1
              have HPF : Hid (f = ph a) := hf
              have hf0 : (f == 0) = false := by
                have : ¬ f = 0 := by omega
                simpa using this
              have hf1 : (f == 1) = false := by
                have : ¬ f = 1 := by omega
                simpa using this
              have hf2 : (f == 2) = false := by
                have : ¬ f = 2 := by omega
                simpa using this
              have hf3 : IntKind.i64.wrap (f + 1) = f + 1 := by rw [IntKind.wrap_i64]; omega
              have hf4 : wrap64 (f + 1) = f + 1 := A9.wr64_id (by omega) (by omega)
              clear r1 r2 hf
              go_wp2_with fail
              go_region_held3 (fun w' => w'.cell? ⟨bH, a, none⟩ = some (.int .i64 (hd a))) (first | exact cH | exact hS1) (first
                | (go_at_call 30; refine (kLd _ (HY.out.m.wk.ar.below (Below.refl _ _).drew)).mono ?_; rintro e w6 ⟨rfl, hA6, hF6⟩; have HM6 : Hid (Km B w w6 (useA s) p k X b6 b8 bP bH L ph hd ∧ FrA B wq w6) := ⟨(HY.out.m.below (Below.refl _ _).drew).arena hA6 hF6, (FrA.of_below (Below.refl _ _).drew).trans hF6⟩; have hS1 : w6.cell? ⟨bH, a, none⟩ = some (.int .i64 (hd a)) := HM6.out.1.hr.cell ha7; clear hA6 hF6))
              clear kLd cH hS1 cP fP
              have cP6 : w6.cell? ⟨bP, a, none⟩ = some (.int .i64 f) := by
                rw [HPF.out]
                exact HM6.out.1.pr.cell ha7
              have fP6 : w6.frozen? ⟨bP, a, none⟩ = false := HM6.out.1.pr.frozen _
              have HE : Hid (KxR B w p k X b6 b8 bP bH L u14 u15 u16 (i + 1) (w6.setCell ⟨bP, a, none⟩ (.int .i64 (f + 1)))) := ⟨_, _, _, _, _, _, HY.out.armP HM6.out.1 HM6.out.2 a (f + 1) HRD.out⟩
              go_wp2_with fail
              go_meet
              exact HE.out
          · as_aux_lemma =>
              rw [e0] at cP
              have kWd := fun wx => word_K hX200 hak hk6 wx
              have HSR : Hid (∀ wx, ArAt B wx s → Calls Tryd.prog 11 #[ptrA B, .int .i64 ((X + 2 * a : Nat) : Int), .int .i64 0] wx (A9.Left9 B wx (.tuple #[]) (setRawA s ((X + 2 * a : Nat) : Int) 0))) := fun wx hx => A9.SetRaw_any hx _ _
              have HRD : Hid (Kp k X (setRawA s ((X + 2 * a : Nat) : Int) 0) c rt md (upN ph a 0) hd (i + 1)) := HY.out.p.rd6 hak
              generalize setRawA s ((X + 2 * a : Nat) : Int) 0 = s1 at *
              generalize ((X + 2 * a : Nat) : Int) = xa at *
              have c80 := HY.out.m.c80
              have c81 := HY.out.m.c81
              clear r1 r2 e0
              go_wp2_with fail
              refine (kWd _).mono ?_
              rintro e w5 ⟨rfl, hb5⟩
              have HM5 : Hid (Km B w w5 s p k X b6 b8 bP bH L ph hd ∧ FrA B wq w5) := ⟨HY.out.m.below hb5, FrA.of_below hb5⟩
              have kSR := HSR.out w5 HM5.out.1.wk.ar
              clear kWd c80 c81 hb5 cP cH fP
              go_wp2_with fail
              refine kSR.mono ?_
              rintro e w6 ⟨rfl, hA6, hF6⟩
              have hm6 := HM5.out.1.arena hA6 hF6
              have cP6 : w6.cell? ⟨bP, a, none⟩ = some (.int .i64 (ph a)) := hm6.pr.cell ha7
              have fP6 : w6.frozen? ⟨bP, a, none⟩ = false := hm6.pr.frozen _
              have HE : Hid (KxR B w p k X b6 b8 bP bH L u14 u15 u16 (i + 1) (w6.setCell ⟨bP, a, none⟩ (.int .i64 0))) := ⟨_, _, _, _, _, _, HY.out.armP hm6 (HM5.out.2.trans hF6) a 0 HRD.out⟩
              clear kSR hA6 hF6 hm6
              go_wp2_with fail
              go_meet
              exact HE.out
      case rest =>
        as_aux_lemma =>
          obtain ⟨s5, c5, rt5, md5, ph5, hd5, hK5⟩ := hcut
          obtain ⟨w5, rfl⟩ : ∃ W, W = wc := ⟨wc, rfl⟩
          have kF := A9.Fault_any hK5.m.wk.ar
          rw [hK5.p.bad] at kF
          have HE : Hid (KxR B w p k X b6 b8 bP bH L u14 u15 u16 (i + 1) w5) := ⟨_, _, _, _, _, _, hK5⟩
          clear hK5
          go_wp2_with fail
          refine kF.mono ?_
          rintro e w6 ⟨rfl, rfl⟩
          clear kF
          go_wp2_with fail
          exact ⟨⟨i + 1, by omega, by omega, by go_num, HE.out⟩, by simp [intOf]; omega⟩
    · have hfew : rt.length ≤ 13 := by
        have h := hK.p.few
        cases md with
        | idle => exact h
        | al m => exact h
        | sc x => exact h.1
      obtain ⟨a16, cap16, h16⟩ := hK.r.len
      subst h16
      have HL : Hid (Below w.heap.size w wq) := hK.m.wk.low
      have h50 : (rt.length : Int) < 50 := by omega
      have hor : ¬ (i : Int) < (len : Int) ∨ (i : Int) < (len : Int) ∧ ¬ (i : Int) < 600 := by omega
      clear hK hlt hfew
      generalize rt.length = ln at *
      rcases hor with h1 | ⟨h1, h2⟩
      all_goals
        go_wp2_with fail
        refine (awake_any _ (HT.out.below HL.out)).mono ?_
        rintro e w9 ⟨rfl, hb9⟩
        go_wp2_with fail
        go_ret
        exact ⟨rfl, below_then HL.out hb9⟩
end Go.Proofs.YtopnkfbcphbbiaaDoor
