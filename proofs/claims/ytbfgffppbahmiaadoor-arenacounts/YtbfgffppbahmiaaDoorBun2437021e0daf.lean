/-
  Helpers: ArT.
-/
import Derived.Test.YtbfgffppbahmiaaDoorBun52fb0ca5dcb5
import Derived.Deep.CutBlock
import Derived.Deep.DeepCutAuto
namespace Go.Proofs.YtbfgffppbahmiaaDoor
open Go.RowKit
open H8 (okP packV packF opA opB opC isH sizeF szT HTab below_then placeI placeI_bd place_any)

/-- the arena and three rows beside it -/
structure Cw (B : Ab) (q1 q2 q3 : Nat) (W w : World) (n : Nat) (c : Int) (s : Ar) (sF : Nat → Int) (gF : Nat → Nat) (wF : Nat → Bool) (i : Nat) : Prop where
  a : ArAt B w s
  r1 : w.rowIs q1 40 8 fun j => .int .i64 (sF j)
  r2 : w.rowIs q2 40 8 fun j => .int .i64 (gF j)
  r3 : w.rowIs q3 41 8 fun j => .bool (wF j)
  low : Below W.heap.size W w
  cnt : Cnt n c s sF gF wF
  le : ∀ k, gF k ≤ i
/-- the blocks -/
structure CwB (B : Ab) (q1 q2 q3 : Nat) (W : World) : Prop where
  lb : ∀ k, B.has k → W.heap.size ≤ k
  n1 : ¬ B.has q1
  n2 : ¬ B.has q2
  n3 : ¬ B.has q3
  l1 : W.heap.size ≤ q1
  l2 : W.heap.size ≤ q2
  l3 : W.heap.size ≤ q3
  d12 : q1 ≠ q2
  d13 : q1 ≠ q3
  d23 : q2 ≠ q3
  tab : 1 < W.heap.size ∧ 0 < W.heap.size
section
variable {B : Ab} {q1 q2 q3 : Nat} {W w w' : World} {n : Nat} {c : Int} {s : Ar} {sF : Nat → Int} {gF : Nat → Nat} {wF : Nat → Bool} {i : Nat}
theorem Cw.below (h : Cw B q1 q2 q3 W w n c s sF gF wF i) (hb : Below w.heap.size w w') : Cw B q1 q2 q3 W w' n c s sF gF wF i :=
  ⟨h.a.below hb, h.r1.of_block (hb.block _ h.r1.lt), h.r2.of_block (hb.block _ h.r2.lt), h.r3.of_block (hb.block _ h.r3.lt), below_then h.low hb, h.cnt, h.le⟩
/-- the arena turned, the rows not yet -/
structure Ch (B : Ab) (q1 q2 q3 : Nat) (W w : World) (s : Ar) (sF : Nat → Int) (gF : Nat → Nat) (wF : Nat → Bool) : Prop where
  a : ArAt B w s
  r1 : w.rowIs q1 40 8 fun j => .int .i64 (sF j)
  r2 : w.rowIs q2 40 8 fun j => .int .i64 (gF j)
  r3 : w.rowIs q3 41 8 fun j => .bool (wF j)
  low : Below W.heap.size W w
theorem Cw.turned (h : Cw B q1 q2 q3 W w n c s sF gF wF i) (hB : CwB B q1 q2 q3 W) {s' : Ar} (hA : ArAt B w' s') (hF : FrA B w w') : Ch B q1 q2 q3 W w' s' sF gF wF :=
  ⟨hA, h.r1.of_block (hF.block _ h.r1.lt hB.n1), h.r2.of_block (hF.block _ h.r2.lt hB.n2), h.r3.of_block (hF.block _ h.r3.lt hB.n3), step_low h.low hF hB.lb⟩
theorem Ch.set1 (h : Ch B q1 q2 q3 W w s sF gF wF) (hB : CwB B q1 q2 q3 W) (k : Nat) (x : Int) : Ch B q1 q2 q3 W (w.setCell ⟨q1, k, none⟩ (.int .i64 x)) s (upS sF k x) gF wF :=
  ⟨h.a.setOther hB.n1 (by have := hB.l1; have := hB.tab.1; omega) (by have := hB.l1; have := hB.tab.2; omega) _ _, (h.r1.set k _).congr fun j _ => by unfold upS; split <;> rfl, h.r2.setOther (a := ⟨q1, k, none⟩) (Ne.symm hB.d12) _, h.r3.setOther (a := ⟨q1, k, none⟩) (Ne.symm hB.d13) _, h.low.setCell (p := ⟨q1, k, none⟩) hB.l1 _⟩
theorem Ch.set2 (h : Ch B q1 q2 q3 W w s sF gF wF) (hB : CwB B q1 q2 q3 W) (k : Nat) (x : Nat) : Ch B q1 q2 q3 W (w.setCell ⟨q2, k, none⟩ (.int .i64 (x : Int))) s sF (upS gF k x) wF :=
  ⟨h.a.setOther hB.n2 (by have := hB.l2; have := hB.tab.1; omega) (by have := hB.l2; have := hB.tab.2; omega) _ _, h.r1.setOther (a := ⟨q2, k, none⟩) hB.d12 _, (h.r2.set k _).congr fun j _ => by unfold upS; split <;> rfl, h.r3.setOther (a := ⟨q2, k, none⟩) (Ne.symm hB.d23) _, h.low.setCell (p := ⟨q2, k, none⟩) hB.l2 _⟩
theorem Ch.set3 (h : Ch B q1 q2 q3 W w s sF gF wF) (hB : CwB B q1 q2 q3 W) (k : Nat) (x : Bool) : Ch B q1 q2 q3 W (w.setCell ⟨q3, k, none⟩ (.bool x)) s sF gF (upS wF k x) :=
  ⟨h.a.setOther hB.n3 (by have := hB.l3; have := hB.tab.1; omega) (by have := hB.l3; have := hB.tab.2; omega) _ _, h.r1.setOther (a := ⟨q3, k, none⟩) hB.d13 _, h.r2.setOther (a := ⟨q3, k, none⟩) hB.d23 _, (h.r3.set k _).congr fun j _ => by unfold upS; split <;> rfl, h.low.setCell (p := ⟨q3, k, none⟩) hB.l3 _⟩
theorem Ch.drew (h : Ch B q1 q2 q3 W w s sF gF wF) : Ch B q1 q2 q3 W w.drew s sF gF wF := ⟨h.a.drew, h.r1, h.r2, h.r3, h.low.drew⟩
theorem Ch.full (h : Ch B q1 q2 q3 W w s sF gF wF) (hc : Cnt n c s sF gF wF) (hl : ∀ k, gF k ≤ i) : Cw B q1 q2 q3 W w n c s sF gF wF i := ⟨h.a, h.r1, h.r2, h.r3, h.low, hc, hl⟩
end
def sumW (n : Nat) (f : Nat → Bool) (j : Nat) : Nat := n * cntW f j
def sumS (n : Nat) (f : Nat → Int) (y : Int) (j : Nat) : Nat := n * cntS f y j
theorem sumW_step (n : Nat) (f : Nat → Bool) (j : Nat) : ((sumW n f (j + 1) : Nat) : Int) = if f j = true then (sumW n f j : Int) + n else sumW n f j := by
  show ((n * (cntW f j + if f j = true then 1 else 0) : Nat) : Int) = if f j = true then ((n * cntW f j : Nat) : Int) + n else ((n * cntW f j : Nat) : Int)
  split
  · rw [Nat.mul_add, Nat.mul_one]; omega
  · rw [Nat.add_zero]
theorem sumS_step (n : Nat) (f : Nat → Int) (y : Int) (j : Nat) : ((sumS n f y (j + 1) : Nat) : Int) = if f j = y then (sumS n f y j : Int) + n else sumS n f y j := by
  show ((n * (cntS f y j + if f j = y then 1 else 0) : Nat) : Int) = if f j = y then ((n * cntS f y j : Nat) : Int) + n else ((n * cntS f y j : Nat) : Int)
  split
  · rw [Nat.mul_add, Nat.mul_one]; omega
  · rw [Nat.add_zero]
theorem sumW_le {n : Nat} {c : Int} {wF : Nat → Bool} (hz : szC n c) (j : Nat) (hj : j ≤ 8) : (sumW n wF j : Int) ≤ 512 := by
  have := Nat.mul_le_mul (szC_bd hz).2 (Nat.le_trans (cntW_le wF j) hj)
  unfold sumW
  omega
theorem sumS_le {n : Nat} {c : Int} {sF : Nat → Int} {y : Int} (hz : szC n c) (j : Nat) (hj : j ≤ 8) : (sumS n sF y j : Int) ≤ 512 := by
  have := Nat.mul_le_mul (szC_bd hz).2 (Nat.le_trans (cntS_le sF y j) hj)
  unfold sumS
  omega
theorem count_is {B : Ab} {w : World} {n : Nat} {c : Int} {s : Ar} {sF : Nat → Int} {gF : Nat → Nat} {wF : Nat → Bool} (hz : szC n c) (h : ArAt B w s) (hc : Cnt n c s sF gF wF) : Calls Tryd.prog 28 #[ptrA B] w fun e w' => e = .returned (.agg #[.int .i64 (sumW n wF 8), .int .i64 (sumS n sF 1 8), .int .i64 (sumS n sF 2 8), .int .i64 ((sumW n wF 8 : Int) - sumS n sF 1 8 - sumS n sF 2 8)]) ∧ Below w.heap.size w w' := by
  have := Count_any h
  unfold cntV at this
  have a := sumW_le (wF := wF) hz 8 (Nat.le_refl _)
  have b := sumS_le (sF := sF) (y := 1) hz 8 (Nat.le_refl _)
  have d := sumS_le (sF := sF) (y := 2) hz 8 (Nat.le_refl _)
  have e1 : s.cC = sumW n wF 8 := hc.cC
  have e2 : s.cL = sumS n sF 1 8 := hc.cL
  have e3 : s.cR = sumS n sF 2 8 := hc.cR
  rw [e1, e2, e3, wr64_id (x := (sumW n wF 8 : Int) - sumS n sF 1 8) (by omega) (by omega), wr64_id (by omega) (by omega)] at this
  exact this
/-- a switch's end -/
def CwE (B : Ab) (q1 q2 q3 : Nat) (W : World) (n : Nat) (c : Int) (i : Nat) (w : World) : Prop := ∃ s sF gF wF, Cw B q1 q2 q3 W w n c s sF gF wF i
set_option maxHeartbeats 8000000 in
set_option maxRecDepth 8000 in
theorem counts_walk (class_ : Int) (ad : Option Addr) (len cap : Nat) (hl : len ≤ 9223372036854775807) (w : World) (hN : NAt w ad len) (hT : HTab w) : Calls Tryd.prog 6 #[.int .i64 class_, .slice ad len cap] w fun e w' => e = .returned (.bool true) ∧ Below w.heap.size w w' := by
  have Pv := fun z wx => place_any z 1048576 wx (by omega) (by omega)
  obtain ⟨c1, c2⟩ := placeI_bd class_ 4 (by omega)
  have Pc := fun wx => place_any class_ 4 wx (by omega) (by omega)
  generalize placeI class_ 4 = c at *
  have hs := H8.Size_any c w hT
  obtain ⟨n, hn⟩ : ∃ n : Nat, sizeF c = n := ⟨(sizeF c).toNat, by have := sizeF_bd c1 c2; omega⟩
  have hsz : szC n c := ⟨c1, c2, hn⟩
  have hnb := szC_bd hsz
  rw [hn] at hs
  have hn8 : ¬ (n : Int) < 8 := by omega
  have h0 := New_any 0 512 false w hT
  have HC0 : Hid (Cnt n c (new9 0 512 false) (fun _ => 0) (fun _ => 0) (fun _ => false)) := Cnt.new
  generalize new9 0 512 false = a0 at *
  have HT : Hid (HTab w) := hT
  have HZ : Hid (szC n c) := hsz
  clear hT hn hsz
  go_enter Tryd.func6, Tryd.ntmps6
  go_wp2_with fail
  refine (Pc _).mono ?_
  rintro e w1 ⟨rfl, rfl⟩
  go_wp2_with fail
  refine hs.mono ?_
  rintro e w2 ⟨rfl, rfl⟩
  go_wp2_with fail
  refine h0.mono ?_
  rintro e w3 ⟨B, rfl, hA, hb, hlb⟩
  go_wp2_with fail
  have hp := (HT.out).pos
  have hbs := hb.size
  have hCB : CwB B w3.heap.size (w3.heap.size + 1) (w3.heap.size + 1 + 1) w2 := ⟨hlb, fun hh => by have := hA.lt hh; omega, fun hh => by have := hA.lt hh; omega, fun hh => by have := hA.lt hh; omega, by omega, by omega, by omega, by omega, by omega, by omega, ⟨hp.1, hp.2⟩⟩
  have r1 := row_new w3 (.int .i64 0) 8 40 _ rfl
  have r2 := row_new (w3.alloc (.cells (Array.replicate 8 (.int .i64 0)) 40 (0, 0))) (.int .i64 0) 8 40 _ rfl
  have r3 := row_new ((w3.alloc (.cells (Array.replicate 8 (.int .i64 0)) 40 (0, 0))).alloc (.cells (Array.replicate 8 (.int .i64 0)) 40 (0, 0))) (.bool false) 8 41 _ rfl
  have z1 : (w3.alloc (.cells (Array.replicate 8 (.int .i64 0)) 40 (0, 0))).heap.size = w3.heap.size + 1 := by simp
  have z2 : ((w3.alloc (.cells (Array.replicate 8 (.int .i64 0)) 40 (0, 0))).alloc (.cells (Array.replicate 8 (.int .i64 0)) 40 (0, 0))).heap.size = w3.heap.size + 1 + 1 := by simp
  rw [z1] at r2
  rw [z2] at r3
  have HCw : Hid (Cw B w3.heap.size (w3.heap.size + 1) (w3.heap.size + 1 + 1) w2 (((w3.alloc (.cells (Array.replicate 8 (.int .i64 0)) 40 (0, 0))).alloc (.cells (Array.replicate 8 (.int .i64 0)) 40 (0, 0))).alloc (.cells (Array.replicate 8 (.bool false)) 41 (0, 0))) n c a0 (fun _ => 0) (fun _ => 0) (fun _ => false) 0) :=
    ⟨((hA.alloc _).alloc _).alloc _, (r1.alloc _).alloc _, r2.alloc _, r3, ((hb.alloc hbs _).alloc (by simp; omega) _).alloc (by simp; omega) _, HC0.out, fun _ => Nat.le_refl _⟩
  have HCB : Hid (CwB B w3.heap.size (w3.heap.size + 1) (w3.heap.size + 1 + 1) w2) := hCB
  clear hCB r1 r2 r3 z1 z2 hA hb hlb hp hbs h0 HC0 hs Pc
  go_loopw [11] (fun iv wr => ∃ i : Nat, i ≤ 60 ∧ i ≤ len ∧ iv = .int .i64 i ∧ CwE B w3.heap.size (w3.heap.size + 1) (w3.heap.size + 1 + 1) w2 n c i wr) (fun iv _ => 60 - (intOf iv).toNat)
  case atStart => exact ⟨0, by omega, by omega, rfl, _, _, _, _, HCw.out⟩
  case round =>
    obtain ⟨i, hi, hil, rfl, s, sF, gF, wF, hCw⟩ := hrel
    clear HCw
    generalize hq3 : w3.heap.size + 1 + 1 = q3 at *
    generalize hq2 : w3.heap.size + 1 = q2 at *
    generalize w3.heap.size = q1 at *
    clear hq2 hq3
    obtain ⟨wq, rfl⟩ : ∃ W, W = wr := ⟨wr, rfl⟩
    by_cases hlt : i < len ∧ i < 60
    · obtain ⟨hlt, hlt60⟩ := hlt
      obtain ⟨b, o, z, rfl, hc⟩ := hN.low hCw.low i hlt
      have HN : Hid (NAt w2 (some ⟨b, o, none⟩) len) := hN
      have hli : (i : Int) < (len : Int) := by omega
      have hli6 : (i : Int) < 60 := by omega
      obtain ⟨v1, v2⟩ := placeI_bd z 1048576 (by omega)
      have Pz := fun wx => Pv z wx
      generalize placeI z 1048576 = v at *
      obtain ⟨k, hk⟩ : ∃ k : Nat, v / 3 % 8 = k := ⟨(v / 3 % 8).toNat, by omega⟩
      have hk8 : k < 8 := by omega
      have hki : (k : Int) < 8 := by omega
      have hgk := hCw.le k
      have HG : Hid (∀ l, gF l ≤ 60) := fun l => by have := hCw.le l; omega
      have cg : wq.cell? ⟨q2, k, none⟩ = some (.int .i64 (gF k)) := hCw.r2.cell hk8
      have cs : wq.cell? ⟨q1, k, none⟩ = some (.int .i64 (sF k)) := hCw.r1.cell hk8
      have hmk : (n : Int) * (k : Int) ≤ 512 := by
        have := Nat.mul_le_mul hnb.2 (show k ≤ 8 by omega)
        have e : ((n * k : Nat) : Int) = (n : Int) * k := by simp
        omega
      have hmk0 : 0 ≤ (n : Int) * (k : Int) := by
        have e : ((n * k : Nat) : Int) = (n : Int) * k := by simp
        omega
      have hP : ∀ e : Nat, 1 ≤ e → e ≤ 100 → ∀ wx, HTab wx → Calls Tryd.prog 13 #[.int .i64 ((n : Int) * (k : Int)), .int .i64 (e : Int), .int .i64 c] wx fun e' w' => e' = .returned (.int .i64 (nmC n c k e)) ∧ Below wx.heap.size wx w' := fun e h1 h2 wx hx => by
        have := H8.Pack_ok (nmC_ok HZ.out hk8 h1 h2) wx hx
        rw [show ((n * k : Nat) : Int) = (n : Int) * k by simp] at this
        exact this
      have hPm := hP (max (gF k) 1) (by omega) (by omega)
      have hPn := hP (gF k + 1) (by omega) (by omega)
      obtain ⟨M, hM⟩ : ∃ M, M = nmC n c k (max (gF k) 1) := ⟨_, rfl⟩
      rw [← hM] at hPm
      have HPm : Hid (∀ wx, HTab wx → Calls Tryd.prog 13 #[.int .i64 ((n : Int) * (k : Int)), .int .i64 ((max (gF k) 1 : Nat) : Int), .int .i64 c] wx fun e' w' => e' = .returned (.int .i64 M) ∧ Below wx.heap.size wx w') := hPm
      have HCw : Hid (Cw B q1 q2 q3 w2 wq n c s sF gF wF i) := hCw
      have HM : Hid (M = nmC n c k (max (gF k) 1)) := hM
      clear hN hCw Pv hP hPm hM
      go_upto_region 13 with (go_at_call 9; refine (Pz _).mono ?_; rintro e w4 ⟨rfl, rfl⟩)
      rw [hk]
      go_cut [14] (fun hv wx => hv = .int .i64 M ∧ Cw B q1 q2 q3 w2 wx n c s sF gF wF i)
      case first =>
        have hmm : (gF k = 0 ∧ max (gF k) 1 = 1) ∨ (1 ≤ gF k ∧ max (gF k) 1 = gF k) := by omega
        rcases hmm with ⟨hm1, hm2⟩ | ⟨hm1, hm2⟩
        · have hPq := HPm.out
          rw [hm2] at hPq
          rw [hm1] at cg
          clear HPm hPn hm2 hm1
          go_wp2_with fail
          refine (hPq _ HCw.out.a.tab).mono ?_
          rintro e w5 ⟨rfl, hb5⟩
          have h5 := HCw.out.below hb5
          clear hb5
          go_wp2_with fail
          go_meet
          exact ⟨rfl, h5⟩
        · have hPq := HPm.out
          rw [hm2] at hPq
          have hm3 : 1 ≤ (gF k : Int) := by omega
          have hm4 : ¬ (gF k : Int) < 1 := by omega
          clear HPm hPn hm2 hm1
          go_wp2_with fail
          refine (hPq _ HCw.out.a.tab).mono ?_
          rintro e w5 ⟨rfl, hb5⟩
          have h5 := HCw.out.below hb5
          clear hb5
          go_wp2_with fail
          go_meet
          exact ⟨rfl, h5⟩
      case rest =>
        obtain ⟨rfl, hCw⟩ := hcut
        clear cg cs HCw HPm Pz
        obtain ⟨wr5, rfl⟩ : ∃ W, W = wc := ⟨wc, rfl⟩
        have HCw : Hid (Cw B q1 q2 q3 w2 wr5 n c s sF gF wF i) := hCw
        have cg : wr5.cell? ⟨q2, k, none⟩ = some (.int .i64 (gF k)) := hCw.r2.cell hk8
        have cs : wr5.cell? ⟨q1, k, none⟩ = some (.int .i64 (sF k)) := hCw.r1.cell hk8
        clear hCw
        obtain ⟨r, hr⟩ : ∃ r, v % 3 = r := ⟨_, rfl⟩
        have hr3 : r = 0 ∨ r = 1 ∨ r = 2 := by omega
        go_upto_block 2 with fail
        rw [hr]
        go_cut [] (fun wx => CwE B q1 q2 q3 w2 n c (i + 1) wx)
        case first =>
          have hn12 := HCB.out.d12
          have hn21 := Ne.symm HCB.out.d12
          have hn13 := HCB.out.d13
          have hn31 := Ne.symm HCB.out.d13
          have hn23 := HCB.out.d23
          have hn32 := Ne.symm HCB.out.d23
          have HLE : Hid (∀ l, gF l ≤ i + 1) := fun l => by have := HCw.out.le l; omega
          have HLU : Hid (∀ l, upS gF k (gF k + 1) l ≤ i + 1) := fun l => by
            have h1 := HCw.out.le l
            have h2 := HCw.out.le k
            unfold upS
            split <;> omega
          rw [show ((gF k + 1 : Nat) : Int) = (gF k : Int) + 1 by omega] at hPn
          have hgk2 : (gF k : Int) ≤ 60 := by omega
          clear hr
          rcases hr3 with rfl | rfl | rfl
          · have hPk := hPn wr5 HCw.out.a.tab
            clear hPn
            by_cases h0 : sF k = 0
            · have hb0 : (sF k == 0) = true := by simpa using h0
              have HB : Hid (∀ wx, ArAt B wx s → Calls Tryd.prog 14 #[ptrA B, .int .i64 (nmC n c k (gF k + 1))] wx (Left9 B wx (.bool true) (bornS s (nmC n c k (gF k + 1))))) := fun wx hx => by
                have := Born_any hx (nmC n c k (gF k + 1))
                rw [HCw.out.cnt.born_yes HZ.out hx.ok hk8 HG.out h0] at this
                exact this
              have HN2 : Hid (Cnt n c (bornS s (nmC n c k (gF k + 1))) (upS sF k 1) (upS gF k (gF k + 1)) (upS wF k true)) := HCw.out.cnt.born HZ.out hk8 HG.out h0
              clear h0
              go_wp2_with fail
              refine hPk.mono ?_
              rintro e w6 ⟨rfl, hb6⟩
              have h6 := HCw.out.below hb6
              have H6 : Hid (Cw B q1 q2 q3 w2 w6 n c s sF gF wF i) := h6
              have cs6 : w6.cell? ⟨q1, k, none⟩ = some (.int .i64 (sF k)) := h6.r1.cell hk8
              clear hb6 h6 hPk cs cg
              go_wp2_with fail
              go_region_held3 (fun w' => w'.cell? ⟨q1, k, none⟩ = some (.int .i64 (sF k))) (first | exact cs6 | assumption) (first | (go_at_call 14; refine (HB.out w6.drew H6.out.a.drew).mono ?_; rintro e w7 ⟨rfl, hA7, hF7⟩; have h7 := H6.out.turned HCB.out hA7 ((FrA.refl B w6).drew.trans hF7); have d1 : w7.cell? ⟨q1, k, none⟩ = some (.int .i64 (sF k)) := h7.r1.cell hk8))
              have g1 := h7.r1.frozen k
              have d2 : w7.cell? ⟨q2, k, none⟩ = some (.int .i64 (gF k)) := h7.r2.cell hk8
              have g2 := h7.r2.frozen k
              have d3 : w7.cell? ⟨q3, k, none⟩ = some (.bool (wF k)) := h7.r3.cell hk8
              have g3 := h7.r3.frozen k
              have e4 : IntKind.i64.wrap ((gF k : Int) + 1) = (gF k : Int) + 1 := by rw [IntKind.wrap_i64]; omega
              have h8 := ((h7.set1 HCB.out k 1).set2 HCB.out k (gF k + 1)).set3 HCB.out k true
              rw [show ((gF k + 1 : Nat) : Int) = (gF k : Int) + 1 by omega] at h8
              have H8' : Hid (Ch B q1 q2 q3 w2 (((w7.setCell ⟨q1, k, none⟩ (.int .i64 1)).setCell ⟨q2, k, none⟩ (.int .i64 ((gF k : Int) + 1))).setCell ⟨q3, k, none⟩ (.bool true)) (bornS s (nmC n c k (gF k + 1))) (upS sF k 1) (upS gF k (gF k + 1)) (upS wF k true)) := h8
              clear h7 h8 hA7 hF7 cs6 HB
              go_wp2_with fail
              go_region
              all_goals
                go_wp2_with fail
                go_meet
                first
                  | exact ⟨_, _, _, _, (H8'.out.drew).full HN2.out HLU.out⟩
                  | trace_state
            · have hb0 : (sF k == 0) = false := by simpa using h0
              have HB : Hid (∀ wx, ArAt B wx s → Calls Tryd.prog 14 #[ptrA B, .int .i64 (nmC n c k (gF k + 1))] wx (Left9 B wx (.bool false) s)) := fun wx hx => by
                have := Born_any hx (nmC n c k (gF k + 1))
                rw [HCw.out.cnt.born_no HZ.out hx.ok hk8 HG.out h0] at this
                exact this
              clear h0
              go_wp2_with fail
              refine hPk.mono ?_
              rintro e w6 ⟨rfl, hb6⟩
              have h6 := HCw.out.below hb6
              have H6 : Hid (Cw B q1 q2 q3 w2 w6 n c s sF gF wF i) := h6
              have cs6 : w6.cell? ⟨q1, k, none⟩ = some (.int .i64 (sF k)) := h6.r1.cell hk8
              clear hb6 h6 hPk cs cg
              go_wp2_with fail
              go_region_held3 (fun w' => w'.cell? ⟨q1, k, none⟩ = some (.int .i64 (sF k))) (first | exact cs6 | assumption) (first | (go_at_call 14; refine (HB.out w6.drew H6.out.a.drew).mono ?_; rintro e w7 ⟨rfl, hA7, hF7⟩; have h7 := H6.out.turned HCB.out hA7 ((FrA.refl B w6).drew.trans hF7); have d1 : w7.cell? ⟨q1, k, none⟩ = some (.int .i64 (sF k)) := h7.r1.cell hk8))
              have H7 : Hid (Ch B q1 q2 q3 w2 w7 s sF gF wF) := h7
              clear h7 hA7 hF7 cs6 HB
              go_wp2_with fail
              go_meet
              exact ⟨_, _, _, _, H7.out.full H6.out.cnt HLE.out⟩
          · clear hPn
            by_cases h0 : sF k = 1
            · have hb0 : (sF k == 1) = true := by simpa using h0
              have HB : Hid (∀ wx, ArAt B wx s → Calls Tryd.prog 10 #[ptrA B, .int .i64 M] wx (Left9 B wx (.bool true) (retireS s M))) := fun wx hx => by
                have := Retire_any hx M
                unfold retireA at this
                rw [if_pos (show s.st M = 1 by rw [HM.out, HCw.out.cnt.st k hk8]; exact h0)] at this
                exact this
              have HN2 : Hid (Cnt n c (retireS s M) (upS sF k 2) gF wF) := by
                have := HCw.out.cnt.retire HZ.out hk8 HG.out h0
                rw [← HM.out] at this
                exact this
              have cs6 : wr5.cell? ⟨q1, k, none⟩ = some (.int .i64 (sF k)) := cs
              clear h0 cs cg
              go_wp2_with fail
              go_region_held3 (fun w' => w'.cell? ⟨q1, k, none⟩ = some (.int .i64 (sF k))) (first | exact cs6 | assumption) (first | (go_at_call 10; refine (HB.out wr5.drew HCw.out.a.drew).mono ?_; rintro e w7 ⟨rfl, hA7, hF7⟩; have h7 := HCw.out.turned HCB.out hA7 ((FrA.refl B wr5).drew.trans hF7); have d1 : w7.cell? ⟨q1, k, none⟩ = some (.int .i64 (sF k)) := h7.r1.cell hk8))
              have g1 := h7.r1.frozen k
              have H8' : Hid (Ch B q1 q2 q3 w2 (w7.setCell ⟨q1, k, none⟩ (.int .i64 2)) (retireS s M) (upS sF k 2) gF wF) := h7.set1 HCB.out k 2
              clear h7 hA7 hF7 cs6 HB
              go_wp2_with fail
              go_meet
              exact ⟨_, _, _, _, H8'.out.full HN2.out HLE.out⟩
            · have hb0 : (sF k == 1) = false := by simpa using h0
              have HB : Hid (∀ wx, ArAt B wx s → Calls Tryd.prog 10 #[ptrA B, .int .i64 M] wx (Left9 B wx (.bool false) s)) := fun wx hx => by
                have := Retire_any hx M
                unfold retireA at this
                rw [if_neg (show ¬ s.st M = 1 by rw [HM.out, HCw.out.cnt.st k hk8]; exact h0)] at this
                exact this
              have cs6 : wr5.cell? ⟨q1, k, none⟩ = some (.int .i64 (sF k)) := cs
              clear h0 cs cg
              go_wp2_with fail
              go_region_held3 (fun w' => w'.cell? ⟨q1, k, none⟩ = some (.int .i64 (sF k))) (first | exact cs6 | assumption) (first | (go_at_call 10; refine (HB.out wr5.drew HCw.out.a.drew).mono ?_; rintro e w7 ⟨rfl, hA7, hF7⟩; have h7 := HCw.out.turned HCB.out hA7 ((FrA.refl B wr5).drew.trans hF7); have d1 : w7.cell? ⟨q1, k, none⟩ = some (.int .i64 (sF k)) := h7.r1.cell hk8))
              have H7 : Hid (Ch B q1 q2 q3 w2 w7 s sF gF wF) := h7
              clear h7 hA7 hF7 cs6 HB
              go_wp2_with fail
              go_meet
              exact ⟨_, _, _, _, H7.out.full HCw.out.cnt HLE.out⟩
          · clear hPn
            by_cases h0 : sF k = 2
            · have hb0 : (sF k == 2) = true := by simpa using h0
              have HB : Hid (∀ wx, ArAt B wx s → Calls Tryd.prog 11 #[ptrA B, .int .i64 M] wx (Left9 B wx (.bool true) (diedS s M))) := fun wx hx => by
                have := Died_any hx M
                unfold diedA at this
                rw [if_pos (show s.st M = 2 by rw [HM.out, HCw.out.cnt.st k hk8]; exact h0)] at this
                exact this
              have HN2 : Hid (Cnt n c (diedS s M) (upS sF k 0) gF wF) := by
                have := HCw.out.cnt.died HZ.out hk8 HG.out h0
                rw [← HM.out] at this
                exact this
              have cs6 : wr5.cell? ⟨q1, k, none⟩ = some (.int .i64 (sF k)) := cs
              clear h0 cs cg
              go_wp2_with fail
              go_region_held3 (fun w' => w'.cell? ⟨q1, k, none⟩ = some (.int .i64 (sF k))) (first | exact cs6 | assumption) (first | (go_at_call 11; refine (HB.out wr5.drew HCw.out.a.drew).mono ?_; rintro e w7 ⟨rfl, hA7, hF7⟩; have h7 := HCw.out.turned HCB.out hA7 ((FrA.refl B wr5).drew.trans hF7); have d1 : w7.cell? ⟨q1, k, none⟩ = some (.int .i64 (sF k)) := h7.r1.cell hk8))
              have g1 := h7.r1.frozen k
              have H8' : Hid (Ch B q1 q2 q3 w2 (w7.setCell ⟨q1, k, none⟩ (.int .i64 0)) (diedS s M) (upS sF k 0) gF wF) := h7.set1 HCB.out k 0
              clear h7 hA7 hF7 cs6 HB
              go_wp2_with fail
              go_meet
              exact ⟨_, _, _, _, H8'.out.full HN2.out HLE.out⟩
            · have hb0 : (sF k == 2) = false := by simpa using h0
              have HB : Hid (∀ wx, ArAt B wx s → Calls Tryd.prog 11 #[ptrA B, .int .i64 M] wx (Left9 B wx (.bool false) s)) := fun wx hx => by
                have := Died_any hx M
                unfold diedA at this
                rw [if_neg (show ¬ s.st M = 2 by rw [HM.out, HCw.out.cnt.st k hk8]; exact h0)] at this
                exact this
              have cs6 : wr5.cell? ⟨q1, k, none⟩ = some (.int .i64 (sF k)) := cs
              clear h0 cs cg
              go_wp2_with fail
              go_region_held3 (fun w' => w'.cell? ⟨q1, k, none⟩ = some (.int .i64 (sF k))) (first | exact cs6 | assumption) (first | (go_at_call 11; refine (HB.out wr5.drew HCw.out.a.drew).mono ?_; rintro e w7 ⟨rfl, hA7, hF7⟩; have h7 := HCw.out.turned HCB.out hA7 ((FrA.refl B wr5).drew.trans hF7); have d1 : w7.cell? ⟨q1, k, none⟩ = some (.int .i64 (sF k)) := h7.r1.cell hk8))
              have H7 : Hid (Ch B q1 q2 q3 w2 w7 s sF gF wF) := h7
              clear h7 hA7 hF7 cs6 HB
              go_wp2_with fail
              go_meet
              exact ⟨_, _, _, _, H7.out.full HCw.out.cnt HLE.out⟩
        case rest =>
          obtain ⟨s', sF', gF', wF', hCw'⟩ := hcut
          obtain ⟨wr6, rfl⟩ : ∃ W, W = wc := ⟨wc, rfl⟩
          have hCA := count_is HZ.out hCw'.a hCw'.cnt
          have HCw' : Hid (Cw B q1 q2 q3 w2 wr6 n c s' sF' gF' wF' (i + 1)) := hCw'
          have hval := hCw'.cnt.val
          have hbd := fun j hj => sumW_le (wF := wF') HZ.out j hj
          have hbd1 := fun j hj => sumS_le (sF := sF') (y := 1) HZ.out j hj
          have hbd2 := fun j hj => sumS_le (sF := sF') (y := 2) HZ.out j hj
          clear hr hr3 hPn HM HCw cg cs hCw'
          go_wp2_with fail
          refine hCA.mono ?_
          rintro e w8 ⟨rfl, hb8⟩
          go_wp2_with fail
          have hC9 := (HCw'.out.below hb8).below ((Below.refl _ _).alloc (Nat.le_refl _) (.cells #[.int .i64 (sumW n wF' 8), .int .i64 (sumS n sF' 1 8), .int .i64 (sumS n sF' 2 8), .int .i64 ((sumW n wF' 8 : Int) - sumS n sF' 1 8 - sumS n sF' 2 8)] 43 (0, 0)))
          have hx0 := heap_alloc_new w8 (.cells #[.int .i64 (sumW n wF' 8), .int .i64 (sumS n sF' 1 8), .int .i64 (sumS n sF' 2 8), .int .i64 ((sumW n wF' 8 : Int) - sumS n sF' 1 8 - sumS n sF' 2 8)] 43 (0, 0))
          generalize w8.alloc (.cells #[.int .i64 (sumW n wF' 8), .int .i64 (sumS n sF' 1 8), .int .i64 (sumS n sF' 2 8), .int .i64 ((sumW n wF' 8 : Int) - sumS n sF' 1 8 - sumS n sF' 2 8)] 43 (0, 0)) = w9 at *
          generalize w8.heap.size = qx at *
          have d0 := cell_of_row w9 qx 0 _ _ _ hx0
          have d1 := cell_of_row w9 qx 1 _ _ _ hx0
          have d2 := cell_of_row w9 qx 2 _ _ _ hx0
          have d3 := cell_of_row w9 qx 3 _ _ _ hx0
          simp at d0 d1 d2 d3
          have HC9 : Hid (Cw B q1 q2 q3 w2 w9 n c s' sF' gF' wF' (i + 1)) := hC9
          clear hx0 hC9 hb8 hCA
          go_loop [16, 17, 18, 19] (fun xv yv zv jv => ∃ j : Nat, j ≤ 8 ∧ jv = .int .i64 j ∧ xv = .int .i64 (sumW n wF' j) ∧ yv = .int .i64 (sumS n sF' 1 j) ∧ zv = .int .i64 (sumS n sF' 2 j)) (fun _ _ _ jv => 8 - (intOf jv).toNat)
          case atStart => exact ⟨0, by omega, rfl, rfl, rfl, rfl⟩
          case round =>
            obtain ⟨j, hj, rfl, rfl, rfl, rfl⟩ := hrel
            have b0 := hbd j hj
            have b1 := hbd1 j hj
            have b2 := hbd2 j hj
            by_cases hj8 : j < 8
            · have hj8i : (j : Int) < 8 := by omega
              have cw : w9.cell? ⟨q3, j, none⟩ = some (.bool (wF' j)) := HC9.out.r3.cell hj8
              have cst : w9.cell? ⟨q1, j, none⟩ = some (.int .i64 (sF' j)) := HC9.out.r1.cell hj8
              have HW : Hid (((sumW n wF' (j + 1) : Nat) : Int) = if wF' j = true then (sumW n wF' j : Int) + n else sumW n wF' j) := sumW_step n wF' j
              have HS1 : Hid (((sumS n sF' 1 (j + 1) : Nat) : Int) = if sF' j = 1 then (sumS n sF' 1 j : Int) + n else sumS n sF' 1 j) := sumS_step n sF' 1 j
              have HS2 : Hid (((sumS n sF' 2 (j + 1) : Nat) : Int) = if sF' j = 2 then (sumS n sF' 2 j : Int) + n else sumS n sF' 2 j) := sumS_step n sF' 2 j
              have hnI : (n : Int) ≤ 64 := by omega
              have hvj := hval j hj8
              clear hval hbd hbd1 hbd2 d0 d1 d2 d3
              generalize wF' j = bw at *
              generalize sF' j = bs at *
              cases bw
              all_goals
                rcases hvj with rfl | rfl | rfl
                all_goals
                  go_wp2_with fail
                  go_round
                  case rel => exact ⟨j + 1, by omega, by go_num, by first | rw [HW.out.trans (if_pos rfl)] | rw [HW.out.trans (if_neg (by decide))], by first | rw [HS1.out.trans (if_pos rfl)] | rw [HS1.out.trans (if_neg (by decide))], by first | rw [HS2.out.trans (if_pos rfl)] | rw [HS2.out.trans (if_neg (by decide))]⟩
                  case measure => simp [intOf]; omega
            · have hj0 : j = 8 := by omega
              subst hj0
              clear hval hbd hbd1 hbd2 hj hj8
              go_wp2_with fail
              go_roundw
              case rel => exact ⟨i + 1, by omega, by omega, by go_num, _, _, _, _, HC9.out⟩
              case measure => simp [intOf]; omega
    · have hF := Fault_any hCw.a
      rw [hCw.cnt.bad] at hF
      have hU := Uses_any hCw.a
      rw [hCw.cnt.uses] at hU
      have hAw := awake_any wq hCw.a.tab
      have HE : Hid (∀ w', Below wq.heap.size wq w' → Below w2.heap.size w2 w') := fun w' h => below_then hCw.low h
      have hcase : (¬ (i : Int) < (len : Int)) ∨ ((i : Int) < (len : Int) ∧ ¬ (i : Int) < 60) := by omega
      clear hCw hlt hi hil Pv hN
      rcases hcase with h1 | ⟨h1, h2⟩
      all_goals
        go_wp2_with fail
        refine hF.mono ?_
        rintro e w5 ⟨rfl, rfl⟩
        go_wp2_with fail
        refine hU.mono ?_
        rintro e w5 ⟨rfl, rfl⟩
        go_wp2_with fail
        refine hAw.mono ?_
        rintro e w6 ⟨rfl, hb6⟩
        go_wp2_with fail
        go_ret
        exact ⟨rfl, HE.out _ hb6⟩
end Go.Proofs.YtbfgffppbahmiaaDoor
