/-
  Helpers: So.
-/
import Derived.Test.YtiedoeifpmfbbaaDoorBun67643e3eaafa
namespace Go.Proofs.YtiedoeifpmfbbaaDoor
open Go.RowKit
open H8 (okP sizeF HTab below_then packV packF isH opA opB opC placeI placeI_bd place_any)
open A9 (Ab ArAt ArMem FrA Ar rawA useA ptrA Ok9 okB bornS retireS retireA diedA diedS inS zN bN Left9 New9 new9 NAt cntV cntW)
open F0 (Pl5 FrS noT noT_new plBox plS plS_of below_next Wk tab_new)

/-- all that holds at a round's head -/
def FuR (B : Ab) (W : World) (g m : Nat) (i u : Nat) (w : World) : Prop := ∃ s gn cg cl hs T, Wk B W w s g (plK 1 m) ∧ On1 4 (grs m) s gn cg cl (fun _ => []) hs T ∧ u = 8 * cg ∧ (∀ x, s.was x = true ↔ x < 8 * cg) ∧ szO hs = 8 * cg ∧ T ≤ 2 * i ∧ 0 ≤ s.uses ∧ s.uses ≤ 300 * i ∧ s.nw = m
theorem FuR.begin {B : Ab} {W w : World} {g m : Nat} {s : Ar} (hW : Wk B W w s g (plK 1 m)) (hB : Bg 1 m s) : FuR B W g m 0 0 w :=
  ⟨s, _, 0, _, [], 0, hW, hB.on, rfl, fun x => by rw [hB.was]; simp, rfl, by omega, by rw [hB.us]; omega, by rw [hB.us]; omega, hB.nw⟩
/-- what the run of one leaves -/
def FuN (B : Ab) (W : World) (g m i u c q : Nat) (w : World) : Prop :=
  (u + 8 * zg c ≤ m ∧ ∃ h gg, h ≠ 0 ∧ AlEnd q w (plK 1 m) h ∧ (∀ wx, HTab wx → Calls Tryd.prog 17 #[.int .i64 h] wx fun e w' => e = .returned (.tuple #[.int .i64 (u : Int), .int .i64 gg, .int .i64 (c : Int), .bool true]) ∧ Below wx.heap.size wx w') ∧ FuR B W g m (i + 1) (u + 8 * zg c) w) ∨
  (¬ u + 8 * zg c ≤ m ∧ AlEnd q w (plK 1 m) 0 ∧ FuR B W g m (i + 1) u w)
theorem FuR.below {B : Ab} {W w w' : World} {g m i u : Nat} (h : FuR B W g m i u w) (hb : Below w.heap.size w w') : FuR B W g m i u w' := by
  obtain ⟨s, gn, cg, cl, hs, T, h1, h2⟩ := h
  exact ⟨s, gn, cg, cl, hs, T, h1.below hb, h2⟩
theorem FuR.tab {B : Ab} {W w : World} {g m i u : Nat} (h : FuR B W g m i u w) : HTab w := by
  obtain ⟨s, gn, cg, cl, hs, T, h1, h2⟩ := h
  exact h1.ar.tab
theorem FuR.low {B : Ab} {W w : World} {g m i u : Nat} (h : FuR B W g m i u w) : Below W.heap.size W w := by
  obtain ⟨s, gn, cg, cl, hs, T, h1, h2⟩ := h
  exact h1.low
theorem FuR.pl {B : Ab} {W w : World} {g m i u : Nat} (h : FuR B W g m i u w) : plS g (plK 1 m) w := by
  obtain ⟨s, gn, cg, cl, hs, T, h1, h2⟩ := h
  exact h1.pl
theorem fu_new {B : Ab} {W w : World} {g m i u c : Nat} (h : FuR B W g m i u w) (hc : c < 4) (hi : i ≤ 100) :
    Calls Tryd.prog 15 #[(plK 1 m).v, .int .i64 0, .int .i64 (c : Int)] w fun e w' => ∃ q, e = .returned (.pointer (some ⟨q, 0, none⟩)) ∧ Calls Tryd.prog 11 #[ptrA B, ifAl q] w' fun e w2 => e = .returned (.bool true) ∧ FuN B W g m i u c q w2 := by
  obtain ⟨s, gn, cg, cl, hs, T, hW, hO, rfl, hwas, hsz, hT, hu0, hu1, hnw⟩ := h
  have hp := plK_ok (a := 1) (m := m) (by omega) (by omega)
  refine (newAlW (k := 0) hW (by rw [plK_wk]; omega) (by rw [plK_wk]; omega) (sizeF_pos hc)).mono fun e w1 hh => ?_
  obtain ⟨q, e1, hN⟩ := hh
  refine ⟨q, e1, (runAlW (k := 0) hN hW hp hO (by omega) (by omega) hc).mono fun e w2 hh => ?_⟩
  obtain ⟨e2, s', o, hP⟩ := hh
  refine ⟨e2, ?_⟩
  have hwk := hP.wk
  have hR := hP.R
  have hww := hP.was
  have hen := hP.en
  obtain ⟨n, hn, hus⟩ := hP.us
  have hus2 : s'.uses = s.uses + n := by rw [hus, A9.wr64_id (by omega) (by omega)]
  clear hus
  cases hR with
  | old j b r hj he hl hb ok h6 hn => cases hl
  | new he hf ok h6 hn' =>
    rw [hnw] at hf hn'
    refine .inl ⟨hf, _, gn cg + 1, nm_ne ok, hen, fun wx hx => ?_, s', _, cg + zg c, _, _, _, hwk, h6, by omega, fun x => ?_, ?_, by omega, by omega, by omega, hn'⟩
    · have := Open_nm ok wx hx
      rw [show 8 * (cg : Int) = ((8 * cg : Nat) : Int) by omega] at this
      exact this
    · rw [hww, hwas]
      have hb := nm_b ok
      have hz := zN_nm ok
      constructor
      · rintro (h | ⟨h', e, hin⟩)
        · omega
        · cases e
          unfold inS at hin
          omega
      · intro h
        by_cases hx : x < 8 * cg
        · exact .inl hx
        · exact .inr ⟨_, rfl, by unfold inS; omega⟩
    · rw [szO_app, hsz]
      simp only [szO, zN_nm ok]
      omega
  | none he hf h6 hn' =>
    rw [hnw] at hf hn'
    refine .inr ⟨hf, hen, s', gn, cg, cl, hs, _, hwk, h6, rfl, fun x => ?_, hsz, by omega, by omega, by omega, hn'⟩
    rw [hww, hwas]
    constructor
    · rintro (h | ⟨h', e, hin⟩)
      · exact h
      · cases e
    · exact .inl
/-- the end's alloc -/
theorem fu_end {B : Ab} {W w : World} {g m i u : Nat} (h : FuR B W g m i u w) (hi : i ≤ 100) :
    Calls Tryd.prog 15 #[(plK 1 m).v, .int .i64 0, .int .i64 7] w fun e w' => ∃ q, e = .returned (.pointer (some ⟨q, 0, none⟩)) ∧ Calls Tryd.prog 11 #[ptrA B, ifAl q] w' fun e w2 => e = .returned (.bool true) ∧ AlEnd q w2 (plK 1 m) 0 ∧ FuR B W g m i u w2 := by
  obtain ⟨s, gn, cg, cl, hs, T, hW, hO, rfl, hwas, hsz, hT, hu0, hu1, hnw⟩ := h
  refine (newAlW4 (k := 0) hW (by rw [plK_wk]; omega) (by rw [plK_wk]; omega) (by decide)).mono fun e w1 hh => ?_
  obtain ⟨q, e1, hN⟩ := hh
  refine ⟨q, e1, (runAlW4 hN hW (A9.wr64_id (by omega) (by omega))).mono fun e w2 hh => ?_⟩
  obtain ⟨e2, x1, x2, x3⟩ := hh
  exact ⟨e2, x3, s, gn, cg, cl, hs, T, x1, hO, rfl, hwas, hsz, hT, hu0, hu1, hnw⟩
/-- what is counted -/
theorem fu_count {B : Ab} {W w : World} {g m i u : Nat} (h : FuR B W g m i u w) : Calls Tryd.prog 24 #[ptrA B] w fun e w' => (∃ x y, e = .returned (.agg #[.int .i64 (u : Int), .int .i64 (u : Int), .int .i64 x, .int .i64 y])) ∧ FuR B W g m i u w' := by
  have hF := h
  obtain ⟨s, gn, cg, cl, hs, T, hW, hO, rfl, hwas, hsz, hT, hu0, hu1, hnw⟩ := h
  obtain ⟨hd, lk, own, mc, hS, ho, hm⟩ := hO.ex
  have hcL : s.cL = ((8 * cg : Nat) : Int) := by
    rw [hS.N.cL]
    simp only [F0.sumN, ho, hsz]
    omega
  have hcC : s.cC = ((8 * cg : Nat) : Int) := by
    have hcap := hS.I.cap
    rw [hS.N.cC, cntW_all (m := 8 * cg) (fun p => hwas p)]
    omega
  refine (A9.Count_any hW.ar).mono fun e w' hh => ?_
  obtain ⟨e1, hb⟩ := hh
  unfold cntV at e1
  rw [hcL, hcC] at e1
  exact ⟨⟨_, _, e1⟩, hF.below hb⟩
theorem fldL (a b c d : Int) (w : World) : (Instr.field 53 (.agg #[.int .i64 a, .int .i64 b, .int .i64 c, .int .i64 d]) 1).run Tryd.prog w = .ok (.int .i64 b) w := by kernel_rfl
theorem fldC (a b c d : Int) (w : World) : (Instr.field 53 (.agg #[.int .i64 a, .int .i64 b, .int .i64 c, .int .i64 d]) 0).run Tryd.prog w = .ok (.int .i64 a) w := by kernel_rfl
set_option maxHeartbeats 8000000 in
set_option maxRecDepth 4000 in
theorem full_walk (a0 : Int) (ad : Option Addr) (len cap : Nat) (hl : len ≤ 9223372036854775807) (w : World) (hN : NAt w ad len) (hT : HTab w) : Calls Tryd.prog 6 #[.int .i64 a0, .slice ad len cap] w fun e w' => e = .returned (.bool true) ∧ Below w.heap.size w w' := by
  have P0 := fun wx => place_any a0 400 wx (by omega) (by omega)
  have P1 := fun z wx => place_any z 4 wx (by omega) (by omega)
  obtain ⟨m, hm, hm4⟩ : ∃ m : Nat, placeI a0 400 = m ∧ m ≤ 400 := ⟨(placeI a0 400).toNat, by have := placeI_bd a0 400 (by omega); omega, by have := placeI_bd a0 400 (by omega); omega⟩
  rw [hm] at P0
  clear hm
  have kR := fun wx => Raw_k (a := 1) (m := m) (by omega) (by omega) (by omega) wx
  have kN := fun wx (hx : HTab wx) => A9.New_any ((4 * 1 + grs m + grs m + 1 : Nat) : Int) (m : Int) false wx hx
  have hB0 : Hid (Bg 1 m (new9 ((4 * 1 + grs m + grs m + 1 : Nat) : Int) (m : Int) false)) := Bg.new (by omega) (by omega)
  have ka := fun wx (hx : HTab wx) => awake_any wx hx
  have ks := fun (c : Nat) (hc : c < 4) wx (hx : HTab wx) => (size_zg hc) ▸ H8.Size_any (c : Int) wx hx
  have HT : Hid (HTab w) := hT
  have kA := fun (B : Ab) (g i u c : Nat) (hc : c < 4) (hi : i ≤ 100) wx (h : FuR B w g m i u wx) => fu_new h hc hi
  have kE := fun (B : Ab) (g i u : Nat) (hi : i ≤ 100) wx (h : FuR B w g m i u wx) => fu_end h hi
  generalize new9 ((4 * 1 + grs m + grs m + 1 : Nat) : Int) (m : Int) false = s0 at *
  generalize ((4 * 1 + grs m + grs m + 1 : Nat) : Int) = n0 at *
  clear hT
  unfold Pl5.v at kR kA kE
  go_enter Tryd.func6, Tryd.ntmps6
  go_wp2_with fail
  refine (P0 _).mono ?_
  rintro e w ⟨rfl, rfl⟩
  go_wp2_with fail
  refine (kR _).mono ?_
  rintro e w1 ⟨rfl, hb1⟩
  go_wp2_with fail
  refine (kN _ (tab_new HT.out hb1)).mono ?_
  rintro e w2 ⟨B, rfl, hA2, hb2, hlB⟩
  have hW2 : Wk B w w2 s0 w1.heap.size (plK 1 m) := Wk.begin hb1 hA2 hb2 hlB
  clear hA2 hb2 hlB hb1 kR kN
  generalize w1.heap.size = g at *
  have HR0 : Hid (FuR B w g m 0 0 w2) := FuR.begin hW2 hB0.out
  clear hW2 hB0
  go_wp2_with fail
  go_loopw [9, 10] (fun uv iv wr => ∃ i u : Nat, i ≤ 60 ∧ i ≤ len ∧ u ≤ 400 ∧ uv = .int .i64 u ∧ iv = .int .i64 i ∧ FuR B w g m i u wr) (fun _ iv _ => 60 - (intOf iv).toNat)
  case atStart => exact ⟨0, 0, by omega, by omega, by omega, rfl, rfl, HR0.out⟩
  case round =>
    obtain ⟨i, u, hi, hil, hu4, rfl, rfl, hR⟩ := hrel
    clear HR0
    obtain ⟨wq, rfl⟩ : ∃ W, W = wr := ⟨wr, rfl⟩
    by_cases hlt : i < len ∧ i < 60
    · obtain ⟨hlt, hlt60⟩ := hlt
      obtain ⟨b, o, z, rfl, hc⟩ := hN.low hR.low i hlt
      have HN : Hid (NAt w (some ⟨b, o, none⟩) len) := hN
      have hli : (i : Int) < (len : Int) := by omega
      have hli6 : (i : Int) < 60 := by omega
      obtain ⟨c, hcz, hc4⟩ : ∃ c : Nat, placeI z 4 = c ∧ c < 4 := ⟨(placeI z 4).toNat, by have := placeI_bd z 4 (by omega); omega, by have := placeI_bd z 4 (by omega); omega⟩
      have Pz := P1 z
      rw [hcz] at Pz
      have kA1 := kA B g i u c hc4 (by omega) _ hR
      obtain ⟨c0, c1, c2, c3, c4⟩ := hR.pl
      have ks1 := ks c hc4
      have HZ : Hid (1 ≤ zg c ∧ zg c ≤ 8) := zg_bd hc4
      have hw1 : IntKind.i64.wrap ((u : Int) + 8 * (zg c : Int)) = (u : Int) + 8 * (zg c : Int) := by
        have := HZ.out
        rw [IntKind.wrap_i64]
        omega
      clear hN hR hcz P1 kA ks
      go_wp2_with fail
      refine (Pz _).mono ?_
      rintro e wq ⟨rfl, rfl⟩
      go_wp2_with fail
      refine kA1.mono ?_
      rintro e w3 ⟨q, rfl, kX⟩
      clear c0 c1 c2 c3 c4 kA1 hc Pz
      go_wp2_with fail
      refine kX.mono ?_
      rintro e w4 ⟨rfl, hFN⟩
      clear kX
      rcases hFN with ⟨hfit, h, gg, hne, hen, kO, hR4⟩ | ⟨hfit, hen, hR4⟩
      · have kH := handleW hen
        have hnb : (h != 0) = true := by simpa using hne
        rw [hnb] at kH
        have HR4 : Hid (FuR B w g m (i + 1) (u + 8 * zg c) w4 ∧ u + 8 * zg c ≤ m) := ⟨hR4, hfit⟩
        have hfi : (u : Int) + 8 * (zg c : Int) ≤ (m : Int) := by omega
        clear hen hR4 hfit hnb
        go_wp2_with fail
        refine kH.mono ?_
        rintro e w5 ⟨rfl, hb5⟩
        have HR5 : Hid (FuR B w g m (i + 1) (u + 8 * zg c) w5) := HR4.out.1.below hb5
        have kO5 := kO _ HR5.out.tab
        clear hb5 kO kH
        go_wp2_with fail
        refine kO5.mono ?_
        rintro e w6 ⟨rfl, hb6⟩
        have HR6 : Hid (FuR B w g m (i + 1) (u + 8 * zg c) w6) := HR5.out.below hb6
        have ks6 := ks1 _ HR6.out.tab
        clear hb6 kO5 ks1 HR5
        go_wp2_with fail
        refine ks6.mono ?_
        rintro e w7 ⟨rfl, rfl⟩
        go_wp2_with fail
        refine ks6.mono ?_
        rintro e w8 ⟨rfl, rfl⟩
        go_wp2_with fail
        go_roundw
        case rel => exact ⟨i + 1, u + 8 * zg c, by omega, by omega, by have := HR4.out.2; omega, by go_num, by go_num, HR6.out⟩
        case measure => simp [intOf]; omega
      · have kH := handleW hen
        rw [show ((0 : Int) != 0) = false from rfl] at kH
        have HR4 : Hid (FuR B w g m (i + 1) u w4) := hR4
        have hfi : ¬ (u : Int) + 8 * (zg c : Int) ≤ (m : Int) := by omega
        have hfd : decide ((u : Int) + 8 * (zg c : Int) ≤ (m : Int)) = false := by simpa using hfi
        clear hen hR4 hfit
        go_wp2_with fail
        refine kH.mono ?_
        rintro e w5 ⟨rfl, hb5⟩
        have HR5 : Hid (FuR B w g m (i + 1) u w5) := HR4.out.below hb5
        have kO5 := Open_0 _ HR5.out.tab
        clear hb5 kH
        go_wp2_with fail
        refine kO5.mono ?_
        rintro e w6 ⟨rfl, hb6⟩
        have HR6 : Hid (FuR B w g m (i + 1) u w6) := HR5.out.below hb6
        have ks6 := ks1 _ HR6.out.tab
        clear hb6 kO5 ks1 HR5
        go_wp2_with fail
        refine ks6.mono ?_
        rintro e w7 ⟨rfl, rfl⟩
        go_wp2_with fail
        go_roundw
        case rel => exact ⟨i + 1, u, by omega, by omega, by omega, rfl, by go_num, HR6.out⟩
        case measure => simp [intOf]; omega
    · have kE1 := kE B g i u (by omega) _ hR
      obtain ⟨c0, c1, c2, c3, c4⟩ := hR.pl
      clear hR kE kA ks P1
      by_cases h1 : i < len
      · have h1i : (i : Int) < (len : Int) := by omega
        have h2i : ¬ (i : Int) < 60 := by omega
        have h2d : decide ((i : Int) < 60) = false := by simpa using h2i
        go_wp2_with fail
        refine kE1.mono ?_
        rintro e w3 ⟨q, rfl, kX⟩
        clear c0 c1 c2 c3 c4 kE1
        go_wp2_with fail
        refine kX.mono ?_
        rintro e w4 ⟨rfl, hen, hR4⟩
        have kH := handleW hen
        rw [show ((0 : Int) != 0) = false from rfl] at kH
        have HR4 : Hid (FuR B w g m i u w4) := hR4
        clear hen hR4 kX
        go_wp2_with fail
        refine kH.mono ?_
        rintro e w5 ⟨rfl, hb5⟩
        have kC5 := fu_count (HR4.out.below hb5)
        clear hb5 kH
        go_wp2_with fail
        refine kC5.mono ?_
        rintro e w6 ⟨⟨x, y, rfl⟩, hR6⟩
        have kC6 := fu_count hR6
        have fl6 := fun wx => fldL (u : Int) (u : Int) x y wx
        clear hR6 kC5
        go_wp2_with fail
        refine kC6.mono ?_
        rintro e w7 ⟨⟨x2, y2, rfl⟩, hR7⟩
        have fl7 := fun wx => fldC (u : Int) (u : Int) x2 y2 wx
        have HR7 : Hid (FuR B w g m i u w7) := hR7
        clear hR7 kC6
        go_wp2_with fail
        refine (ka _ HR7.out.tab).mono ?_
        rintro e w8 ⟨rfl, hb8⟩
        go_wp2_with fail
        go_ret
        exact ⟨rfl, below_then HR7.out.low hb8⟩
      · have h1i : ¬ (i : Int) < (len : Int) := by omega
        have h1d : decide ((i : Int) < (len : Int)) = false := by simpa using h1i
        go_wp2_with fail
        refine kE1.mono ?_
        rintro e w3 ⟨q, rfl, kX⟩
        clear c0 c1 c2 c3 c4 kE1
        go_wp2_with fail
        refine kX.mono ?_
        rintro e w4 ⟨rfl, hen, hR4⟩
        have kH := handleW hen
        rw [show ((0 : Int) != 0) = false from rfl] at kH
        have HR4 : Hid (FuR B w g m i u w4) := hR4
        clear hen hR4 kX
        go_wp2_with fail
        refine kH.mono ?_
        rintro e w5 ⟨rfl, hb5⟩
        have kC5 := fu_count (HR4.out.below hb5)
        clear hb5 kH
        go_wp2_with fail
        refine kC5.mono ?_
        rintro e w6 ⟨⟨x, y, rfl⟩, hR6⟩
        have kC6 := fu_count hR6
        have fl6 := fun wx => fldL (u : Int) (u : Int) x y wx
        clear hR6 kC5
        go_wp2_with fail
        refine kC6.mono ?_
        rintro e w7 ⟨⟨x2, y2, rfl⟩, hR7⟩
        have fl7 := fun wx => fldC (u : Int) (u : Int) x2 y2 wx
        have HR7 : Hid (FuR B w g m i u w7) := hR7
        clear hR7 kC6
        go_wp2_with fail
        refine (ka _ HR7.out.tab).mono ?_
        rintro e w8 ⟨rfl, hb8⟩
        go_wp2_with fail
        go_ret
        exact ⟨rfl, below_then HR7.out.low hb8⟩
end Go.Proofs.YtiedoeifpmfbbaaDoor
