/-
  Helpers: FrQ.
-/
import Derived.Test.YtfljoedjnigfjaaBuna75fe8cbcebc
namespace Go.Proofs.Ytfljoedjnigfjaa
open Go.RowKit
open A9 (Ab ArAt ArMem FrA Ar rawA useA ptrA New9 new9)
open H8 (HTab below_then placeI placeI_bd place_any)

/-- two machines that have ended, beside an arena -/
structure EnR (B : Ab) (W w : World) (s : Ar) (g x y : Nat) (mb : Int) (tx ty : Tn) : Prop where
  wk : Wk B W w s g enP
  px : PuAt x w enP mb tx
  py : PoAt y w enP ty
structure EnV (B : Ab) (W : World) (g x y : Nat) : Prop where
  bx : ¬ B.has x
  by_ : ¬ B.has y
  nx : noT x
  ny : noT y
  wx : W.heap.size ≤ x
  wy : W.heap.size ≤ y
  gx : g ≠ x
  gy : g ≠ y
  yx : y ≠ x
theorem EnR.stepX {B : Ab} {W w : World} {s : Ar} {g x y : Nat} {mb : Int} {tx ty : Tn} (h : EnR B W w s g x y mb tx ty) (v : EnV B W g x y) (h3 : tx.ph = 3) :
    Calls Try.prog 19 #[.pointer (some ⟨x, 0, none⟩), ptrA B] w fun e w' => e = .returned (.bool true) ∧ EnR B W w' s g x y mb tx ty := by
  have hs := PuStep_any h.wk.ar v.bx v.nx h.px (.inr (.inr (.inr h3)))
  rw [pu_end tx h3] at hs
  exact hs.mono fun e w' hp => ⟨hp.1, h.wk.step hp.2.1 hp.2.2.2 v.wx v.gx, hp.2.2.1, h.py.same (hp.2.2.2.block y h.py.lt fun hh => hh.elim v.by_ v.yx)⟩
theorem EnR.stepY {B : Ab} {W w : World} {s : Ar} {g x y : Nat} {mb : Int} {tx ty : Tn} (h : EnR B W w s g x y mb tx ty) (v : EnV B W g x y) (h3 : ty.ph = 3) :
    Calls Try.prog 20 #[.pointer (some ⟨y, 0, none⟩), ptrA B] w fun e w' => e = .returned (.bool true) ∧ EnR B W w' s g x y mb tx ty := by
  have hs := PoStep_any h.wk.ar v.by_ v.ny h.py (.inr (.inr (.inr h3)))
  rw [po_end ty h3] at hs
  exact hs.mono fun e w' hp => ⟨hp.1, h.wk.step hp.2.1 hp.2.2.2 v.wy v.gy, h.px.same (hp.2.2.2.block x h.px.lt fun hh => hh.elim v.bx fun e => v.yx e.symm), hp.2.2.1⟩
theorem new_en (v : Int) (h0 : 0 ≤ v) (h1 : v < 64) : ∃ b : Nat, v = b ∧ b < 64 := ⟨v.toNat, by omega, by omega⟩
set_option maxHeartbeats 4000000 in
theorem ends_walk (a0 a1 : Int) (w : World) (hT : HTab w) : Calls Try.prog 7 #[.int .i64 a0, .int .i64 a1] w fun e w' => e = .returned (.bool true) ∧ Below w.heap.size w w' := by
  have P0 := fun wx => place_any a0 64 wx (by omega) (by omega)
  have P1 := fun wx => place_any a1 5 wx (by omega) (by omega)
  obtain ⟨b, hb, hbl⟩ := new_en _ (placeI_bd a0 64 (by omega)).1 (placeI_bd a0 64 (by omega)).2
  obtain ⟨y1, y2⟩ := placeI_bd a1 5 (by omega)
  rw [hb] at P0
  clear hb
  generalize placeI a1 5 = m at *
  have kR := fun wx => Raw_at (a := 1) (n := 512) enP 133 rfl rfl (by omega) (by omega) wx
  have kN := fun wx (hx : HTab wx) => A9.New_any 133 512 false wx hx
  have h0 : Hid (Lst 4 64 (new9 133 512 false) (fun _ => 0) (fun _ => 0) (fun _ => []) 0) := Lst.new (K := 4) (M := 64) 133 512 false (by decide) (by decide)
  have hh : headF enP 0 0 = 0 := headF_eq (K := 4) (p := enP) ⟨rfl, rfl⟩ (by omega) (by omega) (by omega) (by omega)
  have nx : ∀ wx, Calls Try.prog 12 #[.agg #[.int .i64 1, .int .i64 0, .int .i64 4, .int .i64 68, .int .i64 132], .int .i64 0, .int .i64 0, .int .i64 (8 * (b : Int))] wx (NewPuPost wx enP ((b : Int) + 1) 0) := fun wx => by
    have h := NewPush_any enP 0 0 (8 * (b : Int)) (by omega) (by omega) wx
    rw [hh, show 8 * (b : Int) / 8 + 1 = (b : Int) + 1 by omega] at h
    exact h
  have ny : ∀ wx, Calls Try.prog 13 #[.agg #[.int .i64 1, .int .i64 0, .int .i64 4, .int .i64 68, .int .i64 132], .int .i64 0, .int .i64 0] wx (NewPoPost wx enP 0) := fun wx => by
    have h := NewPop_any enP 0 0 wx
    rw [hh] at h
    exact h
  have HH : Hid (headF enP 0 0 = ((0 : Nat) : Int)) := hh
  have ka := fun wx (hx : HTab wx) => awake_any wx hx
  have HT : Hid (HTab w) := hT
  generalize new9 133 512 false = s0 at *
  clear hT hh
  unfold Pl5.v enP at kR
  go_enter Try.func7, Try.ntmps7
  go_wp2_with fail
  refine (kR _).mono ?_
  rintro e w1 ⟨rfl, hb1⟩
  go_wp2_with fail
  refine (kN _ (tab_new HT.out hb1)).mono ?_
  rintro e w2 ⟨B, rfl, hA2, hb2, hlB⟩
  have hW2 : Wk B w w2 s0 w1.heap.size enP := Wk.begin hb1 hA2 hb2 hlB
  clear hA2 hb2 hlB hb1 kR kN
  generalize w1.heap.size = g at *
  have HW2 : Hid (Wk B w w2 s0 g enP) := hW2
  have q2 : plS g enP w2 := hW2.pl
  clear hW2
  go_wp2_with fail
  refine (P0 _).mono ?_
  rintro e w2 ⟨rfl, rfl⟩
  go_wp2_with fail
  go_region_held3 (fun w' => w'.cell? ⟨g, 0, none⟩ = some (.int .i64 1) ∧ w'.cell? ⟨g, 1, none⟩ = some (.int .i64 0) ∧ w'.cell? ⟨g, 2, none⟩ = some (.int .i64 4) ∧ w'.cell? ⟨g, 3, none⟩ = some (.int .i64 68) ∧ w'.cell? ⟨g, 4, none⟩ = some (.int .i64 132)) (first | exact q2 | exact hW3.pl | exact hW4.pl) (first
    | (go_at_call 12; refine (nx _).mono ?_; rintro e w3 ⟨x, rfl, hX3, hb3, lx3⟩; have hb3' : Below w2.heap.size w2 w3 := (by first | exact hb3 | exact below_then (Below.refl _ _).drew hb3); have lx3' : w2.heap.size ≤ x := lx3; have hW3 := HW2.out.below hb3')
    | (go_at_call 13; refine (ny _).mono ?_; rintro e w4 ⟨y, rfl, hY4, hb4, ly4⟩; have hW4 := hW3.below hb4; have hX4 := hX3.same (hb4.block x hX3.lt)))
  have hx3 := hX3.lt
  have ly4' : w3.heap.size ≤ y := ly4
  have h23 := hb3'.size
  have HV : Hid (EnV B w g x y) := by
    have hl := HW2.out.low.size
    have hg := HW2.out.glt
    exact ⟨fun hb => by have := HW2.out.ar.lt hb; omega, fun hb => by have := HW2.out.ar.lt hb; omega, noT_new HT.out (by omega), noT_new HT.out (by omega), by omega, by omega, by omega, by omega, by omega⟩
  have kx := doPushW (K := 4) (M := 64) (k := 0) (b := b) hW4 h0.out ⟨rfl, rfl⟩ HV.out.bx HV.out.nx HV.out.wx HV.out.gx (by omega) hbl (fun _ _ h => by simp at h) (by omega) hX4
  have HY : Hid (PoAt y w4 enP ⟨0, 0, 0, 0⟩) := hY4
  clear hX3 hX4 hW3 hb3 hb3' q2 hx3 ly4 ly4' lx3 lx3' h23 hb4 hY4 hW4 nx ny P0
  go_wp2_with fail
  refine kx.mono ?_
  rintro e w5 ⟨rfl, s1, -, hW5, hB5, hL5, hF5, tx, hX5, tx3⟩
  have hY5 := HY.out.same (hF5.block y HY.out.lt fun h => h.elim HV.out.by_ HV.out.yx)
  have ky := doPopW (K := 4) (M := 64) (k := 0) (b := b) (r := []) hW5 hL5 ⟨rfl, rfl⟩ HV.out.by_ HV.out.ny HV.out.wy HV.out.gy (by omega) (upLs_same _ _ _) (by omega) hY5
  have HX : Hid (PuAt x w5 enP ((b : Int) + 1) tx ∧ tx.ph = 3 ∧ s1.bad = s0.bad) := ⟨hX5, tx3, hB5⟩
  clear hW5 hB5 hL5 hF5 hX5 tx3 hY5 kx HY
  go_wp2_with fail
  refine ky.mono ?_
  rintro e w6 ⟨rfl, s2, ty, -, hW6, hB6, hL6, hF6, hY6, ty3, hb6⟩
  have hX6 := HX.out.1.same (hF6.block x HX.out.1.lt fun h => h.elim HV.out.bx fun e => HV.out.yx e.symm)
  have hR6 : EnR B w w6 s2 g x y ((b : Int) + 1) tx ty := ⟨hW6, hX6, hY6⟩
  have HS : Hid (s2.bad = s0.bad ∧ (∃ hd lk ls T, Lst 4 64 s2 hd lk ls T ∧ ls 0 = []) ∧ tx.ph = 3 ∧ ty.ph = 3) := ⟨hB6.trans HX.out.2.2, ⟨_, _, _, _, hL6, upLs_same _ _ _⟩, HX.out.2.1, ty3⟩
  have kb := fun wx (hx : EnR B w wx s2 g x y ((b : Int) + 1) tx ty) => Base_any hx.py
  rw [hb6] at kb
  have ku := fun wx (hx : EnR B w wx s2 g x y ((b : Int) + 1) tx ty) => A9.Uses_any hx.wk.ar
  clear hX6 hW6 hB6 hL6 hF6 hY6 ty3 hb6 ky HX
  go_wp2_with fail
  refine (ku _ hR6).mono ?_
  rintro e w7 ⟨rfl, rfl⟩
  go_wp2_with fail
  refine (P1 _).mono ?_
  rintro e w7 ⟨rfl, rfl⟩
  go_wp2_with fail
  have HR6 : Hid (EnR B w w7 s2 g x y ((b : Int) + 1) tx ty) := hR6
  clear hR6
  go_loopw [12] (fun iv wr => ∃ i : Nat, i ≤ 5 ∧ iv = .int .i64 i ∧ EnR B w wr s2 g x y ((b : Int) + 1) tx ty) (fun iv _ => (intOf iv).toNat)
  case atStart => exact ⟨m.toNat, by omega, by rw [Int.toNat_of_nonneg y1], HR6.out⟩
  case round =>
    obtain ⟨i, hi, rfl, hR⟩ := hrel
    obtain ⟨wq, rfl⟩ : ∃ W, W = wr := ⟨wr, rfl⟩
    cases i with
    | zero =>
      obtain ⟨hd, lk, ls, T, hL, hl⟩ := HS.out.2.1
      have kbq := kb _ hR
      have kuq := ku _ hR
      have kl := ListW (K := 4) (M := 64) (k := 0) (a := 0) (c := 0) (l := []) hR.wk hL ⟨rfl, rfl⟩ (by omega) HH.out (by omega) hl
      obtain ⟨c0, c1, c2, c3, c4⟩ := hR.wk.pl
      clear hR HR6 hL hl
      go_wp2_with fail
      refine kbq.mono ?_
      rintro e w8 ⟨rfl, rfl⟩
      go_wp2_with fail
      refine kuq.mono ?_
      rintro e w8 ⟨rfl, rfl⟩
      go_wp2_with fail
      refine kl.mono ?_
      rintro e w9 ⟨v, s3, rfl, hW9, hB9, hL9, hS9⟩
      have hr9 := hS9.row
      obtain ⟨a9, c9, rfl⟩ := A9.own_any hr9
      have HE : Hid (Below w.heap.size w w9) := hW9.low
      clear hW9 hB9 hL9 hS9 hr9
      simp only [basesF_len, List.length_nil]
      go_wp2_with fail
      refine (ka _ (HT.out.below HE.out)).mono ?_
      rintro e w10 ⟨rfl, hb10⟩
      go_wp2_with fail
      go_ret
      exact ⟨rfl, below_then HE.out hb10⟩
    | succ i =>
      have hpos : (0 : Int) < ((i + 1 : Nat) : Int) := by omega
      have kx := hR.stepX HV.out HS.out.2.2.1
      have ky := fun wx (hx : EnR B w wx s2 g x y ((b : Int) + 1) tx ty) => hx.stepY HV.out HS.out.2.2.2
      clear hR HR6
      go_wp2_with fail
      refine kx.mono ?_
      rintro e w8 ⟨rfl, hR8⟩
      go_wp2_with fail
      refine (ky _ hR8).mono ?_
      rintro e w9 ⟨rfl, hR9⟩
      go_wp2_with fail
      go_roundw
      case rel => exact ⟨i, by omega, by go_num, hR9⟩
      case measure => simp [intOf]
end Go.Proofs.Ytfljoedjnigfjaa
