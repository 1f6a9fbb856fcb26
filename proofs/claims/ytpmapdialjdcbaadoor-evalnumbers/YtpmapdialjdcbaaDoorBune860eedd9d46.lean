/-
  Helpers: RxJ, RxN, RxO.
-/
import Derived.Test.YtpmapdialjdcbaaDoorBun1c706d947d87
import Derived.Test.YtpmapdialjdcbaaDoorBun043e4e27b7df
import Derived.Deep.RegionHeld3
import Derived.Test.YtpmapdialjdcbaaDoorBun53d5438622c1
namespace Go.Proofs.YtpmapdialjdcbaaDoor
open Go.RowKit
open C2 (In Pr SlF SlI InsAt Tab still_of_below below_then below_alloc Still)

set_option maxHeartbeats 1000000 in
theorem sameRan_same (v u : Value) (xs : List Rn) (w : World) (hv : SlR w v xs) (hu : SlR w u xs) (hx : xs.length ≤ 1000000) :
    Calls Tryd.prog 16 #[v, u] w fun e w' => e = .returned (.bool true) ∧ Below w.heap.size w w' := by
  obtain ⟨a, c, rfl, hk⟩ := hv
  obtain ⟨b, d, rfl, hl⟩ := hu
  have hne : ((xs.length : Int) != (xs.length : Int)) = false := by simp
  go_enter Tryd.func16, Tryd.ntmps16
  go_wp2_with fail
  go_loopw [5] (fun iv wr => ∃ i : Nat, i ≤ xs.length ∧ iv = .int .i64 i ∧ Below w.heap.size w wr) (fun iv _ => xs.length - (intOf iv).toNat)
  case atStart => exact ⟨0, by omega, rfl, Below.refl _ _⟩
  case round =>
    obtain ⟨i, hi, rfl, hB⟩ := hrel
    by_cases hlt : i < xs.length
    · obtain ⟨g, f, rfl, x0, x1, x2, x3, x4⟩ := hk i hlt
      obtain ⟨g2, f2, rfl, y0, y1, y2, y3, y4⟩ := hl i hlt
      have c0 := still_of_below hB _ _ x0
      have c1 := still_of_below hB _ _ x1
      have c2 := still_of_below hB _ _ x2
      have c3 := still_of_below hB _ _ x3
      have c4 := still_of_below hB _ _ x4
      have d0 := still_of_below hB _ _ y0
      have d1 := still_of_below hB _ _ y1
      have d2 := still_of_below hB _ _ y2
      have d3 := still_of_below hB _ _ y3
      have d4 := still_of_below hB _ _ y4
      clear x0 x1 x2 x3 x4 y0 y1 y2 y3 y4 hk hl
      generalize xs[i].key = k0 at *
      generalize xs[i].fn = k1 at *
      generalize xs[i].arg = k2 at *
      generalize xs[i].e.h = k3 at *
      generalize xs[i].e.v = k4 at *
      have e0 : (k0 != k0) = false := by simp
      have e1 : (k1 != k1) = false := by simp
      have e2 : (k2 != k2) = false := by simp
      have hse : (k3 == k3 && k4 == k4) = true := by simp
      have hSE := fun W => sameEnd_any k3 k4 k3 k4 W
      rw [hse] at hSE
      have HSE : Hid (∀ W, Calls Tryd.prog 15 #[.agg #[.int .i64 k3, .int .i64 k4], .agg #[.int .i64 k3, .int .i64 k4]] W fun e w' => e = .returned (.bool true) ∧ Below W.heap.size W w') := hSE
      clear hse hSE
      have hlti : (i : Int) < (xs.length : Int) := by omega
      go_upto_region 6 with fail
      go_cut [67] (fun v wx => v = .bool false ∧ Below w.heap.size w wx)
      case first =>
        go_region_held3 (fun w' => w'.cell? ⟨g, f + i * 5, none⟩ = some (.int .i64 k0) ∧ w'.cell? ⟨g, f + i * 5 + 1, none⟩ = some (.int .i64 k1) ∧ w'.cell? ⟨g, f + i * 5 + 2, none⟩ = some (.int .i64 k2) ∧ w'.cell? ⟨g, f + i * 5 + 3, none⟩ = some (.int .i64 k3) ∧ w'.cell? ⟨g, f + i * 5 + 4, none⟩ = some (.int .i64 k4) ∧ w'.cell? ⟨g2, f2 + i * 5, none⟩ = some (.int .i64 k0) ∧ w'.cell? ⟨g2, f2 + i * 5 + 1, none⟩ = some (.int .i64 k1) ∧ w'.cell? ⟨g2, f2 + i * 5 + 2, none⟩ = some (.int .i64 k2) ∧ w'.cell? ⟨g2, f2 + i * 5 + 3, none⟩ = some (.int .i64 k3) ∧ w'.cell? ⟨g2, f2 + i * 5 + 4, none⟩ = some (.int .i64 k4)) (first | exact ⟨c0, c1, c2, c3, c4, d0, d1, d2, d3, d4⟩ | exact ⟨c05, c15, c25, c35, c45, d05, d15, d25, d35, d45⟩) (first | (go_at_call 15; refine (HSE.out _).mono ?_; rintro e w5 ⟨rfl, hb5⟩; have hX5 : Below wr.heap.size wr w5 := (by first | exact below_then (Below.refl _ _).drew hb5 | exact hb5); have c05 := still_of_below hX5 _ _ c0; have c15 := still_of_below hX5 _ _ c1; have c25 := still_of_below hX5 _ _ c2; have c35 := still_of_below hX5 _ _ c3; have c45 := still_of_below hX5 _ _ c4; have d05 := still_of_below hX5 _ _ d0; have d15 := still_of_below hX5 _ _ d1; have d25 := still_of_below hX5 _ _ d2; have d35 := still_of_below hX5 _ _ d3; have d45 := still_of_below hX5 _ _ d4))
        all_goals
          go_wp2_with fail
          go_meet
          exact ⟨rfl, below_then hB hX5⟩
      case rest =>
        obtain ⟨rfl, hBc⟩ := hcut
        go_wp2_with fail
        go_roundw
        case rel => exact ⟨i + 1, by omega, by go_num, hBc⟩
        case measure => simp [intOf]; omega
    · obtain rfl : i = xs.length := by omega
      have hnl : ¬ (xs.length : Int) < (xs.length : Int) := by omega
      go_wp2_with fail
      go_ret
      exact ⟨rfl, hB⟩
theorem sameBools_same (v u : Value) (xs : List Bool) (w : World) (hv : SlB w v xs) (hu : SlB w u xs) (hx : xs.length ≤ 1000000) :
    Calls Tryd.prog 18 #[v, u] w fun e w' => e = .returned (.bool true) ∧ Below w.heap.size w w' := by
  obtain ⟨a, c, rfl, hk⟩ := hv
  obtain ⟨b, d, rfl, hl⟩ := hu
  have hne : ((xs.length : Int) != (xs.length : Int)) = false := by simp
  go_enter Tryd.func18, Tryd.ntmps18
  go_wp2_with fail
  go_loopw [5] (fun iv wr => ∃ i : Nat, i ≤ xs.length ∧ iv = .int .i64 i ∧ Below w.heap.size w wr) (fun iv _ => xs.length - (intOf iv).toNat)
  case atStart => exact ⟨0, by omega, rfl, Below.refl _ _⟩
  case round =>
    obtain ⟨i, hi, rfl, hB⟩ := hrel
    by_cases hlt : i < xs.length
    · obtain ⟨g, f, rfl, x0⟩ := hk i hlt
      obtain ⟨g2, f2, rfl, y0⟩ := hl i hlt
      have c0 := still_of_below hB _ _ x0
      have d0 := still_of_below hB _ _ y0
      clear x0 y0 hk hl
      generalize xs[i] = k0 at *
      have e0 : (k0 != k0) = false := by simp
      have hlti : (i : Int) < (xs.length : Int) := by omega
      go_wp2_with fail
      go_region
      all_goals
        go_wp2_with fail
        go_roundw
        case rel => exact ⟨i + 1, by omega, by go_num, hB.drew⟩
        case measure => simp [intOf]; omega
    · obtain rfl : i = xs.length := by omega
      have hnl : ¬ (xs.length : Int) < (xs.length : Int) := by omega
      go_wp2_with fail
      go_ret
      exact ⟨rfl, hB⟩
end Go.Proofs.YtpmapdialjdcbaaDoor
namespace Go.Proofs.YtpmapdialjdcbaaDoor
open Go.RowKit
open C2 (In Pr SlF SlI InsAt Tab BoxedP still_of_below below_then below_alloc Still OkPr)
open V5 (checkF SlN)

theorem out7_ok {p : Pg7} {M : Nat} {arg : Int} (h : checkF p = 0) : (out7 p M arg).er = 0 := by
  rw [out7, if_neg (by simp [h])]
  split <;> rfl
theorem ev_fl {p : Pg7} (hp : Ok7 p) {M : Nat} (arg : Int) (ho : (ev0 p M arg).1.over = false) : (ev0 p M arg).1.futs.length = p.futs.toNat ∧ (ev0 p M arg).1.was.length = p.futs.toNat := by
  have h := ev_fin hp M M (rs0 p) (root7 p arg) K6.root (by show M - 0 ≤ M; omega) (root_st hp arg) rfl ho
  exact ⟨h.fl, h.wl⟩
theorem out7_len {p : Pg7} {M : Nat} (hM : M ≤ 20000) {arg : Int} : (out7 p M arg).ran.length ≤ 20001 ∧ (out7 p M arg).futs.length ≤ 20001 ∧ (out7 p M arg).was.length ≤ 20001 := by
  by_cases hc : checkF p = 0
  · rw [out7, if_neg (by simp [hc])]
    by_cases ho : (ev0 p M arg).1.over = true
    · rw [if_pos ho]; exact ⟨by simp, by simp, by simp⟩
    · rw [if_neg ho]
      have hp := ok_of_check hc
      have h1 := ran_le p M depK chY M (rs0 p) (root7 p arg)
      have h2 : (ev0 p M arg).1.steps ≤ M := ev_le M _ _ (by show M - 0 ≤ M; omega) (by show 0 ≤ M; omega)
      have h3 : (ev0 p M arg).1.ran.length + 0 ≤ (ev0 p M arg).1.steps + 0 := h1
      obtain ⟨h4, h5⟩ := ev_fl hp arg (by simpa using ho)
      have h6 := hp.u1
      refine ⟨?_, by simp only; omega, by simp only; omega⟩
      simp only [ran0, putR_len]
      omega
  · rw [out7, if_pos hc]; exact ⟨by simp, by simp, by simp⟩
set_option maxRecDepth 8000 in
theorem numbers_long (ad : Option Addr) (len cap : Nat) (arg : Int) (cn : Bool) (w : World) (hT : Tab w) (h100 : 100 < len) : Calls Tryd.prog 4 #[.slice ad len cap, .int .i64 arg, .bool cn] w fun e w' => e = .returned (.bool true) ∧ Below w.heap.size w w' := by
  have hd : decide ((100 : Int) < (len : Int)) = true := by simp; omega
  go_enter Tryd.func4, Tryd.ntmps4
  go_wp2_with fail
  refine (awake_any _ hT).mono ?_
  rintro e w1 ⟨rfl, hb1⟩
  go_wp2_with fail
  go_ret
  exact ⟨rfl, hb1⟩
set_option maxHeartbeats 4000000 in
set_option maxRecDepth 8000 in
theorem numbers_walk (nv : Value) (len : Nat) (arg : Int) (cn : Bool) (w : World) (hT : Tab w) (hn : C2.NumsIn w nv len) (hl : len ≤ 9223372036854775807) : Calls Tryd.prog 4 #[nv, .int .i64 arg, .bool cn] w fun e w' => e = .returned (.bool true) ∧ Below w.heap.size w w' := by
  obtain ⟨ad, cap, rfl, hn1, hn2, hn3⟩ := hn
  by_cases h100 : 100 < len
  · exact numbers_long ad len cap arg cn w hT h100
  have hd : decide ((100 : Int) < (len : Int)) = false := by simp; omega
  clear h100 hl
  go_enter Tryd.func4, Tryd.ntmps4
  go_wp2_with fail
  refine (C2.prog_any _ cn w ⟨ad, len, cap, rfl, hn1, hn2, hn3⟩).mono ?_
  rintro e w1 ⟨p, fv, hok, rfl, hF, hb1⟩
  clear hn1 hn2 hn3 hd
  obtain ⟨fa, fc, hfv, -⟩ := id hF
  have hfew : p.fs.length ≤ 1000000 := by have := hok.few; omega
  have hfns : ∀ f ∈ p.fs, f.length ≤ 1000000 := fun f hf => by have := (hok.fns f hf).2.1; omega
  have hM : mostN 1500 ≤ 20000 := most_le _
  have H1 : Hid (∀ W, Tab W → SlF W fv p.fs → Calls Tryd.prog 12 #[.agg #[fv, .int .i64 p.futs, .int .i64 p.depth, .int .i64 p.fuel], .int .i64 arg, .int .i64 1500] W fun e w' => RunOut (out7 p (mostN 1500) arg) W e w') := fun W hT hF => (Run_any p fv arg 1500 W hT hF hfew hfns).mono fun e w' h => run_out h
  have H2 : Hid (∀ W, SlF W fv p.fs → Calls Tryd.prog 14 #[.agg #[fv, .int .i64 p.futs, .int .i64 p.depth, .int .i64 p.fuel], .int .i64 arg, .int .i64 1500] W fun e w' => RefOut (out7 p (mostN 1500) arg) W e w') := fun W hF => RRun_any p fv arg 1500 W hF hfew hfns
  have hEr := out7_ok (M := mostN 1500) (arg := arg) (V5.ok_check hok)
  have hLn := out7_len hM (p := p) (arg := arg)
  subst hfv
  clear hok hM
  generalize out7 p (mostN 1500) arg = o at *
  obtain ⟨oh, ovv, oran, ofuts, owas, st, fk, ov, er⟩ := o
  simp only at hEr hLn
  subst hEr
  obtain ⟨hl1, hl2, hl3⟩ := hLn
  obtain ⟨pn, hpn⟩ : ∃ n, p.fs.length = n := ⟨_, rfl⟩
  rw [hpn] at H1 H2 hF ⊢
  generalize p.fs = pfs at *
  generalize p.futs = pfu at *
  generalize p.depth = pde at *
  generalize p.fuel = pfl at *
  clear hpn hfew hfns
  have hba := below_alloc (Below.refl w1.heap.size w1) (.cells #[.slice fa pn fc, .int .i64 pfu, .int .i64 pde, .int .i64 pfl] 24)
  have hx7 := heap_alloc_new w1 (.cells #[.slice fa pn fc, .int .i64 pfu, .int .i64 pde, .int .i64 pfl] 24)
  have hF2 := hF.kept hba
  have hb2 := below_then hb1 hba
  clear hF hba
  go_wp2_with fail
  generalize w1.alloc (.cells #[.slice fa pn fc, .int .i64 pfu, .int .i64 pde, .int .i64 pfl] 24) = w2 at *
  generalize w1.heap.size = b7 at *
  have hT2 := hT.below hb2
  clear hb1
  refine (H1.out _ hT2 hF2).mono ?_
  rintro e w3 ⟨rv, uv, sv, rfl, hb3, hS1, hS2, hS3⟩
  obtain ⟨ra, rc, rfl, -⟩ := id hS1
  obtain ⟨ua, uc, rfl, -⟩ := id hS2
  obtain ⟨sa, sc, rfl, -⟩ := id hS3
  simp only at hS1 hS2 hS3
  have HL : Hid (oran.length ≤ 1000000 ∧ ofuts.length ≤ 1000000 ∧ owas.length ≤ 1000000) := ⟨by omega, by omega, by omega⟩
  obtain ⟨rn, hrn⟩ : ∃ n, oran.length = n := ⟨_, rfl⟩
  obtain ⟨un, hun⟩ : ∃ n, ofuts.length = n := ⟨_, rfl⟩
  obtain ⟨sn, hsn⟩ : ∃ n, owas.length = n := ⟨_, rfl⟩
  simp only [hrn, hun, hsn] at hS1 hS2 hS3 ⊢
  have HN : Hid (oran.length = rn ∧ ofuts.length = un ∧ owas.length = sn) := ⟨hrn, hun, hsn⟩
  clear hl1 hl2 hl3 hrn hun hsn
  have hbb := below_alloc (Below.refl w3.heap.size w3) (.cells #[.int .i64 oh, .int .i64 ovv, .slice ra rn rc, .slice ua un uc, .slice sa sn sc, .int .i64 st, .int .i64 fk, .bool ov] 34)
  have hx8 := heap_alloc_new w3 (.cells #[.int .i64 oh, .int .i64 ovv, .slice ra rn rc, .slice ua un uc, .slice sa sn sc, .int .i64 st, .int .i64 fk, .bool ov] 34)
  have hb24 := below_then hb3 hbb
  have hx7' := (hb24.block b7 (lt_of_block hx7)).trans hx7
  have hF4 := hF2.kept hb24
  have hb4 := below_then hb2 hb24
  have hS1' := hS1.still (still_of_below hbb)
  have hS2' := hS2.kept hbb
  clear hS1 hS2 hS3 hbb hb3 hF2 hx7 hT2 hb24 hb2 H1
  go_upto_region 5 with fail
  generalize w3.alloc (.cells #[.int .i64 oh, .int .i64 ovv, .slice ra rn rc, .slice ua un uc, .slice sa sn sc, .int .i64 st, .int .i64 fk, .bool ov] 34) = w4 at *
  generalize w3.heap.size = b8 at *
  have p0 : w4.cell? ⟨b7, 0, none⟩ = some (.slice fa pn fc) := cell_of_row _ _ _ _ _ _ hx7'
  have p1 : w4.cell? ⟨b7, 1, none⟩ = some (.int .i64 pfu) := cell_of_row _ _ _ _ _ _ hx7'
  have p2 : w4.cell? ⟨b7, 2, none⟩ = some (.int .i64 pde) := cell_of_row _ _ _ _ _ _ hx7'
  have p3 : w4.cell? ⟨b7, 3, none⟩ = some (.int .i64 pfl) := cell_of_row _ _ _ _ _ _ hx7'
  go_wp2_with fail
  refine (H2.out _ hF4).mono ?_
  rintro e w5 ⟨br, rv2, uv2, sv2, rfl, hb5, hR1, hR2, hR3, hbr, r4, r5, r6, r7, r8, r0⟩
  obtain ⟨ra2, rc2, rfl, -⟩ := id hR1
  obtain ⟨ua2, uc2, rfl, -⟩ := id hR2
  obtain ⟨sa2, sc2, rfl, -⟩ := id hR3
  simp only at hR1 hR2 r4 r5 r6 r7 r8 r0
  simp only [HN.out.1, HN.out.2.1, HN.out.2.2] at hR1 hR2 r4 r5 r6
  have hbc := below_alloc (Below.refl w5.heap.size w5) (.cells #[.int .i64 oh, .int .i64 ovv] 29)
  have hx9 := heap_alloc_new w5 (.cells #[.int .i64 oh, .int .i64 ovv] 29)
  have hb56 := below_then hb5 hbc
  have hx8' := (hb56.block b8 (lt_of_block hx8)).trans hx8
  have hb6 := below_then hb4 hb56
  have q4 := still_of_below hbc _ _ r4
  have q5 := still_of_below hbc _ _ r5
  have q7 := still_of_below hbc _ _ r7
  have q8 := still_of_below hbc _ _ r8
  have q0 := still_of_below hbc _ _ r0
  have hA1 := hS1'.still (still_of_below hb56)
  have hA2 := hS2'.kept hb56
  have hC1 := hR1.still (still_of_below hbc)
  have hC2 := hR2.kept hbc
  have hT6 := hT.below hb6
  clear hS1' hS2' hR1 hR2 hR3 r4 r5 r6 r7 r8 r0 hbc hb5 hb56 hb4 hx8 hF4 hx7' p0 p1 p2 p3 hbr H2
  go_upto_region 6 with fail
  generalize w5.alloc (.cells #[.int .i64 oh, .int .i64 ovv] 29) = w6 at *
  generalize w5.heap.size = b9 at *
  have HC : Hid (∀ w', Below w6.heap.size w6 w' → w'.cell? ⟨b8, 0, none⟩ = some (.int .i64 oh) ∧ w'.cell? ⟨b8, 1, none⟩ = some (.int .i64 ovv) ∧ w'.cell? ⟨b8, 2, none⟩ = some (.slice ra rn rc) ∧ w'.cell? ⟨b8, 3, none⟩ = some (.slice ua un uc) ∧ w'.cell? ⟨b8, 5, none⟩ = some (.int .i64 st) ∧ w'.cell? ⟨b8, 6, none⟩ = some (.int .i64 fk) ∧ w'.cell? ⟨b8, 7, none⟩ = some (.bool ov) ∧ w'.cell? ⟨b9, 0, none⟩ = some (.int .i64 oh) ∧ w'.cell? ⟨b9, 1, none⟩ = some (.int .i64 ovv) ∧ w'.cell? ⟨br, 4, none⟩ = some (.slice ra2 rn rc2) ∧ w'.cell? ⟨br, 5, none⟩ = some (.slice ua2 un uc2) ∧ w'.cell? ⟨br, 7, none⟩ = some (.int .i64 st) ∧ w'.cell? ⟨br, 8, none⟩ = some (.int .i64 fk) ∧ w'.cell? ⟨br, 10, none⟩ = some (.bool ov)) := fun w' h => ⟨still_of_below h _ _ (cell_of_row _ _ _ _ _ _ hx8'), still_of_below h _ _ (cell_of_row _ _ _ _ _ _ hx8'), still_of_below h _ _ (cell_of_row _ _ _ _ _ _ hx8'), still_of_below h _ _ (cell_of_row _ _ _ _ _ _ hx8'), still_of_below h _ _ (cell_of_row _ _ _ _ _ _ hx8'), still_of_below h _ _ (cell_of_row _ _ _ _ _ _ hx8'), still_of_below h _ _ (cell_of_row _ _ _ _ _ _ hx8'), still_of_below h _ _ (cell_of_row _ _ _ _ _ _ hx9), still_of_below h _ _ (cell_of_row _ _ _ _ _ _ hx9), still_of_below h _ _ q4, still_of_below h _ _ q5, still_of_below h _ _ q7, still_of_below h _ _ q8, still_of_below h _ _ q0⟩
  have HSE : Hid (∀ W, Below w6.heap.size w6 W → Calls Tryd.prog 15 #[.agg #[.int .i64 oh, .int .i64 ovv], .agg #[.int .i64 oh, .int .i64 ovv]] W fun e w' => e = .returned (.bool true) ∧ Below W.heap.size W w') := fun W _ => by
    have q := sameEnd_any oh ovv oh ovv W
    rw [show (oh == oh && ovv == ovv) = true by simp] at q
    exact q
  have HSR : Hid (∀ W, Below w6.heap.size w6 W → Calls Tryd.prog 16 #[.slice ra rn rc, .slice ra2 rn rc2] W fun e w' => e = .returned (.bool true) ∧ Below W.heap.size W w') := fun W h => sameRan_same _ _ oran W (hA1.still (still_of_below h)) (hC1.still (still_of_below h)) HL.out.1
  have HSI : Hid (∀ W, Below w6.heap.size w6 W → Calls Tryd.prog 17 #[.slice ua un uc, .slice ua2 un uc2] W fun e w' => e = .returned (.bool true) ∧ Below W.heap.size W w') := fun W h => V5.same_same _ _ ofuts W (hA2.kept h) (hC2.kept h) HL.out.2.1
  have HAW : Hid (∀ W, Below w6.heap.size w6 W → Calls Tryd.prog 10 #[] W fun e w' => e = .returned (.bool true) ∧ Below W.heap.size W w') := fun W h => awake_any W (hT6.below h)
  obtain ⟨c0, c1, c2, c3, c5, c6, c7, d0, d1, e4, e5, e7, e8, e0⟩ := HC.out w6 (Below.refl _ _)
  have s1 : (ov == ov) = true := by simp
  have s2 : (st == st) = true := by simp
  have s3 : (fk == fk) = true := by simp
  clear hA1 hA2 hC1 hC2 q4 q5 q7 q8 q0 hx9 hx8' hT6
  go_wp2_with fail
  go_region_held3 (fun w' => w'.cell? ⟨b8, 0, none⟩ = some (.int .i64 oh) ∧ w'.cell? ⟨b8, 1, none⟩ = some (.int .i64 ovv) ∧ w'.cell? ⟨b8, 2, none⟩ = some (.slice ra rn rc) ∧ w'.cell? ⟨b8, 3, none⟩ = some (.slice ua un uc) ∧ w'.cell? ⟨b8, 5, none⟩ = some (.int .i64 st) ∧ w'.cell? ⟨b8, 6, none⟩ = some (.int .i64 fk) ∧ w'.cell? ⟨b8, 7, none⟩ = some (.bool ov) ∧ w'.cell? ⟨b9, 0, none⟩ = some (.int .i64 oh) ∧ w'.cell? ⟨b9, 1, none⟩ = some (.int .i64 ovv) ∧ w'.cell? ⟨br, 4, none⟩ = some (.slice ra2 rn rc2) ∧ w'.cell? ⟨br, 5, none⟩ = some (.slice ua2 un uc2) ∧ w'.cell? ⟨br, 7, none⟩ = some (.int .i64 st) ∧ w'.cell? ⟨br, 8, none⟩ = some (.int .i64 fk) ∧ w'.cell? ⟨br, 10, none⟩ = some (.bool ov)) (first | exact ⟨c0, c1, c2, c3, c5, c6, c7, d0, d1, e4, e5, e7, e8, e0⟩ | exact ⟨c0_8, c1_8, c2_8, c3_8, c5_8, c6_8, c7_8, d0_8, d1_8, e4_8, e5_8, e7_8, e8_8, e0_8⟩ | exact ⟨c0_7, c1_7, c2_7, c3_7, c5_7, c6_7, c7_7, d0_7, d1_7, e4_7, e5_7, e7_7, e8_7, e0_7⟩ | exact ⟨c0_6, c1_6, c2_6, c3_6, c5_6, c6_6, c7_6, d0_6, d1_6, e4_6, e5_6, e7_6, e8_6, e0_6⟩ | exact ⟨c0_5, c1_5, c2_5, c3_5, c5_5, c6_5, c7_5, d0_5, d1_5, e4_5, e5_5, e7_5, e8_5, e0_5⟩) (first | (go_at_call 15; refine (HSE.out _ (by first | exact ((Below.refl _ _).drew : Below w6.heap.size w6 w6.drew))).mono ?_; rintro e v5 ⟨rfl, hz5⟩; have hX5 : Below w6.heap.size w6 v5 := below_then (by first | exact ((Below.refl _ _).drew : Below w6.heap.size w6 w6.drew)) hz5; obtain ⟨c0_5, c1_5, c2_5, c3_5, c5_5, c6_5, c7_5, d0_5, d1_5, e4_5, e5_5, e7_5, e8_5, e0_5⟩ := HC.out _ hX5) | (go_at_call 16; refine (HSR.out _ (by first | exact hX5 | exact ((Below.refl _ _).drew : Below w6.heap.size w6 w6.drew))).mono ?_; rintro e v6 ⟨rfl, hz6⟩; have hX6 : Below w6.heap.size w6 v6 := below_then (by first | exact hX5 | exact ((Below.refl _ _).drew : Below w6.heap.size w6 w6.drew)) hz6; obtain ⟨c0_6, c1_6, c2_6, c3_6, c5_6, c6_6, c7_6, d0_6, d1_6, e4_6, e5_6, e7_6, e8_6, e0_6⟩ := HC.out _ hX6) | (go_at_call 17; refine (HSI.out _ (by first | exact hX6 | exact hX5 | exact ((Below.refl _ _).drew : Below w6.heap.size w6 w6.drew))).mono ?_; rintro e v7 ⟨rfl, hz7⟩; have hX7 : Below w6.heap.size w6 v7 := below_then (by first | exact hX6 | exact hX5 | exact ((Below.refl _ _).drew : Below w6.heap.size w6 w6.drew)) hz7; obtain ⟨c0_7, c1_7, c2_7, c3_7, c5_7, c6_7, c7_7, d0_7, d1_7, e4_7, e5_7, e7_7, e8_7, e0_7⟩ := HC.out _ hX7) | (go_at_call 10; refine (HAW.out _ (by first | exact hX7 | exact hX6 | exact hX5 | exact ((Below.refl _ _).drew : Below w6.heap.size w6 w6.drew))).mono ?_; rintro e v8 ⟨rfl, hz8⟩; have hX8 : Below w6.heap.size w6 v8 := below_then (by first | exact hX7 | exact hX6 | exact hX5 | exact ((Below.refl _ _).drew : Below w6.heap.size w6 w6.drew)) hz8; obtain ⟨c0_8, c1_8, c2_8, c3_8, c5_8, c6_8, c7_8, d0_8, d1_8, e4_8, e5_8, e7_8, e8_8, e0_8⟩ := HC.out _ hX8))
  all_goals
    go_wp2_with fail
    go_ret
    exact ⟨rfl, below_then hb6 hX8⟩
end Go.Proofs.YtpmapdialjdcbaaDoor
namespace Go.Proofs.YtpmapdialjdcbaaDoor
open Go.RowKit
open C2 (In Pr SlF SlI InsAt Tab BoxedP still_of_below below_then below_alloc Still OkPr)
open V5 (checkF SlN)

set_option maxHeartbeats 4000000 in
set_option maxRecDepth 8000 in
theorem all7_walk (p : Pr) (fv : Value) (arg most : Int) (w : World) (hT : Tab w) (hF : SlF w fv p.fs) (hl : p.fs.length ≤ maxLen) (hm : ∀ f ∈ p.fs, f.length ≤ maxLen) :
    Calls Tryd.prog 3 #[.agg #[fv, .int .i64 p.futs, .int .i64 p.depth, .int .i64 p.fuel], .int .i64 arg, .int .i64 most] w fun e w' => e = .returned (.bool true) ∧ Below w.heap.size w w' := by
  have hF0 := hF
  obtain ⟨fa, fc, rfl, -⟩ := hF0
  have hB1 := BoxedP.made hF
  have hb1 := below_alloc (Below.refl w.heap.size w) (.cells #[.slice fa p.fs.length fc, .int .i64 p.futs, .int .i64 p.depth, .int .i64 p.fuel] 24)
  clear hF
  go_enter Tryd.func3, Tryd.ntmps3
  obtain ⟨c0, c1, c2, c3⟩ := hB1.cells
  go_wp2_with fail
  refine (C2.few_any p _ _ hB1.fns hl hm).mono ?_
  rintro e w1 ⟨⟨r, rfl, hr⟩, hb2'⟩
  have hb2 := below_then hb1 hb2'
  have hB2 := hB1.kept hb2'
  clear hb2' hB1 hl hm c0 c1 c2 c3 hb1
  cases r
  · clear hr
    go_wp2_with (go_at_call 10; refine (awake_any _ (hT.below hb2)).mono ?_; rintro e w2 ⟨rfl, hb3⟩)
    go_ret
    exact ⟨rfl, below_then hb2 hb3⟩
  · obtain ⟨hn15, hf45⟩ := hr rfl
    have hfew : p.fs.length ≤ 1000000 := by omega
    have hfns : ∀ f ∈ p.fs, f.length ≤ 1000000 := fun f hf => by have := hf45 f hf; omega
    have HPL := fun w => C2.place_any most 2000 w (by omega) (by omega)
    generalize C2.placeI most 2000 = nm at *
    have HK : Hid (∀ w', Below w1.heap.size w1 w' → Calls Tryd.prog 13 #[.agg #[.slice fa p.fs.length fc, .int .i64 p.futs, .int .i64 p.depth, .int .i64 p.fuel]] w' fun e w'' => ∃ ga gc, e = .returned (.agg #[.slice ga p.fs.length gc, .int .i64 p.futs, .int .i64 p.depth, .int .i64 p.fuel]) ∧ SlF w'' (.slice ga p.fs.length gc) p.fs ∧ Below w'.heap.size w' w'') := fun w' h => C2.copy_any p _ _ (hB2.kept h).fns hn15 hf45
    have H1 : Hid (∀ fv W, Tab W → SlF W fv p.fs → Calls Tryd.prog 12 #[.agg #[fv, .int .i64 p.futs, .int .i64 p.depth, .int .i64 p.fuel], .int .i64 arg, .int .i64 nm] W fun e w' => RunOut (out7 p (mostN nm) arg) W e w') := fun fv W hT hF => (Run_any p fv arg nm W hT hF hfew hfns).mono fun e w' h => run_out h
    have H2 : Hid (∀ fv W, SlF W fv p.fs → Calls Tryd.prog 14 #[.agg #[fv, .int .i64 p.futs, .int .i64 p.depth, .int .i64 p.fuel], .int .i64 arg, .int .i64 nm] W fun e w' => RefOut (out7 p (mostN nm) arg) W e w') := fun fv W hF => RRun_any p fv arg nm W hF hfew hfns
    have hLn := out7_len (most_le nm) (p := p) (arg := arg)
    have hT1 := hT.below hb2
    generalize out7 p (mostN nm) arg = o at *
    obtain ⟨oh, ovv, oran, ofuts, owas, st, fk, ov, er⟩ := o
    simp only at hLn
    obtain ⟨hl1, hl2, hl3⟩ := hLn
    have HL : Hid (oran.length ≤ 1000000 ∧ ofuts.length ≤ 1000000 ∧ owas.length ≤ 1000000) := ⟨by omega, by omega, by omega⟩
    obtain ⟨p0, p1, p2, p3⟩ := hB2.cells
    have hF1 := hB2.fns
    have hbx := hB2.box
    clear hr hn15 hf45 hfew hfns hl1 hl2 hl3 hB2
    obtain ⟨pn, hpn⟩ : ∃ n, p.fs.length = n := ⟨_, rfl⟩
    rw [hpn] at HK hF1 hbx p0 ⊢
    generalize p.fs = pfs at *
    generalize p.futs = pfu at *
    generalize p.depth = pde at *
    generalize p.fuel = pfl at *
    clear hpn
    go_wp2_with fail
    refine (HPL _).mono ?_
    rintro e w' ⟨rfl, rfl⟩
    go_wp2_with fail
    refine (HK.out _ (Below.refl _ _)).mono ?_
    rintro e w2 ⟨ga, gc, rfl, hF2, hb12⟩
    go_wp2_with fail
    refine (H1.out _ _ (hT1.below hb12) hF2).mono ?_
    rintro e w3 ⟨rv, uv, sv, rfl, hb3, hS1, hS2, hS3⟩
    obtain ⟨ra, rc, rfl, -⟩ := id hS1
    obtain ⟨ua, uc, rfl, -⟩ := id hS2
    obtain ⟨sa, sc, rfl, -⟩ := id hS3
    simp only at hS1 hS2 hS3
    obtain ⟨rn, hrn⟩ : ∃ n, oran.length = n := ⟨_, rfl⟩
    obtain ⟨un, hun⟩ : ∃ n, ofuts.length = n := ⟨_, rfl⟩
    obtain ⟨sn, hsn⟩ : ∃ n, owas.length = n := ⟨_, rfl⟩
    simp only [hrn, hun, hsn] at hS1 hS2 hS3 ⊢
    have HN : Hid (oran.length = rn ∧ ofuts.length = un ∧ owas.length = sn) := ⟨hrn, hun, hsn⟩
    clear hrn hun hsn
    have hbb := below_alloc (Below.refl w3.heap.size w3) (.cells #[.int .i64 oh, .int .i64 ovv, .slice ra rn rc, .slice ua un uc, .slice sa sn sc, .int .i64 st, .int .i64 fk, .bool ov] 34)
    have hx8 := heap_alloc_new w3 (.cells #[.int .i64 oh, .int .i64 ovv, .slice ra rn rc, .slice ua un uc, .slice sa sn sc, .int .i64 st, .int .i64 fk, .bool ov] 34)
    have hb14 := below_then hb12 (below_then hb3 hbb)
    have hbx4 := (hb14.block _ (lt_of_block hbx)).trans hbx
    have hF4 := hF1.kept hb14
    have hb4 := below_then hb2 hb14
    have hS1' := hS1.still (still_of_below hbb)
    have hS2' := hS2.kept hbb
    have hS3' := hS3.still (still_of_below hbb)
    clear hS1 hS2 hS3 hbb hb3 hb12 hF1 hF2 hbx hT1 hb14 hb2 H1 HK HPL p0 p1 p2 p3
    go_upto_region 5 with fail
    generalize w3.alloc (.cells #[.int .i64 oh, .int .i64 ovv, .slice ra rn rc, .slice ua un uc, .slice sa sn sc, .int .i64 st, .int .i64 fk, .bool ov] 34) = w4 at *
    generalize w3.heap.size = b8 at *
    have p0 : w4.cell? ⟨w.heap.size, 0, none⟩ = some (.slice fa pn fc) := cell_of_row _ _ _ _ _ _ hbx4
    have p1 : w4.cell? ⟨w.heap.size, 1, none⟩ = some (.int .i64 pfu) := cell_of_row _ _ _ _ _ _ hbx4
    have p2 : w4.cell? ⟨w.heap.size, 2, none⟩ = some (.int .i64 pde) := cell_of_row _ _ _ _ _ _ hbx4
    have p3 : w4.cell? ⟨w.heap.size, 3, none⟩ = some (.int .i64 pfl) := cell_of_row _ _ _ _ _ _ hbx4
    go_wp2_with fail
    refine (H2.out _ _ hF4).mono ?_
    rintro e w5 ⟨br, rv2, uv2, sv2, rfl, hb5, hR1, hR2, hR3, hbr, r4, r5, r6, r7, r8, r0⟩
    obtain ⟨ra2, rc2, rfl, -⟩ := id hR1
    obtain ⟨ua2, uc2, rfl, -⟩ := id hR2
    obtain ⟨sa2, sc2, rfl, -⟩ := id hR3
    simp only at hR1 hR2 hR3 r4 r5 r6 r7 r8 r0
    simp only [HN.out.1, HN.out.2.1, HN.out.2.2] at hR1 hR2 hR3 r4 r5 r6
    have hbc := below_alloc (Below.refl w5.heap.size w5) (.cells #[.int .i64 oh, .int .i64 ovv] 29)
    have hx9 := heap_alloc_new w5 (.cells #[.int .i64 oh, .int .i64 ovv] 29)
    have hb56 := below_then hb5 hbc
    have hx8' := (hb56.block b8 (lt_of_block hx8)).trans hx8
    have hb6 := below_then hb4 hb56
    have q4 := still_of_below hbc _ _ r4
    have q5 := still_of_below hbc _ _ r5
    have q6 := still_of_below hbc _ _ r6
    have q7 := still_of_below hbc _ _ r7
    have q8 := still_of_below hbc _ _ r8
    have q0 := still_of_below hbc _ _ r0
    have hA1 := hS1'.still (still_of_below hb56)
    have hA2 := hS2'.kept hb56
    have hA3 := hS3'.still (still_of_below hb56)
    have hC1 := hR1.still (still_of_below hbc)
    have hC2 := hR2.kept hbc
    have hC3 := hR3.still (still_of_below hbc)
    have hT6 := hT.below hb6
    clear hS1' hS2' hS3' hR1 hR2 hR3 r4 r5 r6 r7 r8 r0 hbc hb5 hb56 hb4 hx8 hF4 hbx4 p0 p1 p2 p3 hbr H2
    go_upto_region 6 with fail
    generalize w5.alloc (.cells #[.int .i64 oh, .int .i64 ovv] 29) = w6 at *
    generalize w5.heap.size = b9 at *
    have HC : Hid (∀ w', Below w6.heap.size w6 w' → w'.cell? ⟨b8, 0, none⟩ = some (.int .i64 oh) ∧ w'.cell? ⟨b8, 1, none⟩ = some (.int .i64 ovv) ∧ w'.cell? ⟨b8, 5, none⟩ = some (.int .i64 st) ∧ w'.cell? ⟨b8, 6, none⟩ = some (.int .i64 fk) ∧ w'.cell? ⟨b8, 7, none⟩ = some (.bool ov) ∧ w'.cell? ⟨b9, 0, none⟩ = some (.int .i64 oh) ∧ w'.cell? ⟨b9, 1, none⟩ = some (.int .i64 ovv) ∧ w'.cell? ⟨br, 7, none⟩ = some (.int .i64 st) ∧ w'.cell? ⟨br, 8, none⟩ = some (.int .i64 fk) ∧ w'.cell? ⟨br, 10, none⟩ = some (.bool ov)) := fun w' h => ⟨still_of_below h _ _ (cell_of_row _ _ _ _ _ _ hx8'), still_of_below h _ _ (cell_of_row _ _ _ _ _ _ hx8'), still_of_below h _ _ (cell_of_row _ _ _ _ _ _ hx8'), still_of_below h _ _ (cell_of_row _ _ _ _ _ _ hx8'), still_of_below h _ _ (cell_of_row _ _ _ _ _ _ hx8'), still_of_below h _ _ (cell_of_row _ _ _ _ _ _ hx9), still_of_below h _ _ (cell_of_row _ _ _ _ _ _ hx9), still_of_below h _ _ q7, still_of_below h _ _ q8, still_of_below h _ _ q0⟩
    have HD : Hid (∀ w', Below w6.heap.size w6 w' → w'.cell? ⟨b8, 2, none⟩ = some (.slice ra rn rc) ∧ w'.cell? ⟨b8, 3, none⟩ = some (.slice ua un uc) ∧ w'.cell? ⟨b8, 4, none⟩ = some (.slice sa sn sc) ∧ w'.cell? ⟨br, 4, none⟩ = some (.slice ra2 rn rc2) ∧ w'.cell? ⟨br, 5, none⟩ = some (.slice ua2 un uc2) ∧ w'.cell? ⟨br, 6, none⟩ = some (.slice sa2 sn sc2)) := fun w' h => ⟨still_of_below h _ _ (cell_of_row _ _ _ _ _ _ hx8'), still_of_below h _ _ (cell_of_row _ _ _ _ _ _ hx8'), still_of_below h _ _ (cell_of_row _ _ _ _ _ _ hx8'), still_of_below h _ _ q4, still_of_below h _ _ q5, still_of_below h _ _ q6⟩
    have HSE : Hid (∀ W, Below w6.heap.size w6 W → Calls Tryd.prog 15 #[.agg #[.int .i64 oh, .int .i64 ovv], .agg #[.int .i64 oh, .int .i64 ovv]] W fun e w' => e = .returned (.bool true) ∧ Below W.heap.size W w') := fun W _ => by
      have q := sameEnd_any oh ovv oh ovv W
      rw [show (oh == oh && ovv == ovv) = true by simp] at q
      exact q
    have HSR0 : Hid (∀ W, Below w6.heap.size w6 W → Calls Tryd.prog 16 #[.slice ra rn rc, .slice ra2 rn rc2] W fun e w' => e = .returned (.bool true) ∧ Below W.heap.size W w') := fun W h => sameRan_same _ _ oran W (hA1.still (still_of_below h)) (hC1.still (still_of_below h)) HL.out.1
    have HSI0 : Hid (∀ W, Below w6.heap.size w6 W → Calls Tryd.prog 17 #[.slice ua un uc, .slice ua2 un uc2] W fun e w' => e = .returned (.bool true) ∧ Below W.heap.size W w') := fun W h => V5.same_same _ _ ofuts W (hA2.kept h) (hC2.kept h) HL.out.2.1
    have HSB0 : Hid (∀ W, Below w6.heap.size w6 W → Calls Tryd.prog 18 #[.slice sa sn sc, .slice sa2 sn sc2] W fun e w' => e = .returned (.bool true) ∧ Below W.heap.size W w') := fun W h => sameBools_same _ _ owas W (hA3.still (still_of_below h)) (hC3.still (still_of_below h)) HL.out.2.2
    have HAW0 : Hid (∀ W, Below w6.heap.size w6 W → Calls Tryd.prog 10 #[] W fun e w' => e = .returned (.bool true) ∧ Below W.heap.size W w') := fun W h => awake_any W (hT6.below h)
    obtain ⟨c0, c1, c5, c6, c7, d0, d1, e7, e8, e0⟩ := HC.out w6 (Below.refl _ _)
    have s0 : (er != er) = false := by simp
    have s1 : (ov != ov) = false := by simp
    have s2 : (st != st) = false := by simp
    have s3 : (fk != fk) = false := by simp
    clear hA1 hA2 hA3 hC1 hC2 hC3 q4 q5 q6 q7 q8 q0 hx9 hx8' hT6
    go_cut [71] (fun v wx => v = .bool false ∧ Below w6.heap.size w6 wx)
    case first =>
      go_region_held3 (fun w' => w'.cell? ⟨b8, 0, none⟩ = some (.int .i64 oh) ∧ w'.cell? ⟨b8, 1, none⟩ = some (.int .i64 ovv) ∧ w'.cell? ⟨b8, 5, none⟩ = some (.int .i64 st) ∧ w'.cell? ⟨b8, 6, none⟩ = some (.int .i64 fk) ∧ w'.cell? ⟨b8, 7, none⟩ = some (.bool ov) ∧ w'.cell? ⟨b9, 0, none⟩ = some (.int .i64 oh) ∧ w'.cell? ⟨b9, 1, none⟩ = some (.int .i64 ovv) ∧ w'.cell? ⟨br, 7, none⟩ = some (.int .i64 st) ∧ w'.cell? ⟨br, 8, none⟩ = some (.int .i64 fk) ∧ w'.cell? ⟨br, 10, none⟩ = some (.bool ov)) (first | exact ⟨c0, c1, c5, c6, c7, d0, d1, e7, e8, e0⟩ | exact ⟨c0_5, c1_5, c5_5, c6_5, c7_5, d0_5, d1_5, e7_5, e8_5, e0_5⟩) (first | (go_at_call 15; refine (HSE.out _ (by first | exact ((Below.refl _ _).drew : Below w6.heap.size w6 w6.drew))).mono ?_; rintro e v5 ⟨rfl, hz5⟩; have hX5 : Below w6.heap.size w6 v5 := below_then (by first | exact ((Below.refl _ _).drew : Below w6.heap.size w6 w6.drew)) hz5; obtain ⟨c0_5, c1_5, c5_5, c6_5, c7_5, d0_5, d1_5, e7_5, e8_5, e0_5⟩ := HC.out _ hX5))
      all_goals
        go_wp2_with fail
        go_meet
        exact ⟨rfl, hX5⟩
    case rest =>
      obtain ⟨rfl, hBc⟩ := hcut
      clear c0 c1 c5 c6 c7 d0 d1 e7 e8 e0
      obtain ⟨c2, c3, c4, e4, e5, e6⟩ := HD.out wc hBc
      have HC2 : Hid (∀ w', Below wc.heap.size wc w' → w'.cell? ⟨b8, 2, none⟩ = some (.slice ra rn rc) ∧ w'.cell? ⟨b8, 3, none⟩ = some (.slice ua un uc) ∧ w'.cell? ⟨b8, 4, none⟩ = some (.slice sa sn sc) ∧ w'.cell? ⟨br, 4, none⟩ = some (.slice ra2 rn rc2) ∧ w'.cell? ⟨br, 5, none⟩ = some (.slice ua2 un uc2) ∧ w'.cell? ⟨br, 6, none⟩ = some (.slice sa2 sn sc2)) := fun w' h => HD.out w' (below_then hBc h)
      have HSR : Hid (∀ W, Below wc.heap.size wc W → Calls Tryd.prog 16 #[.slice ra rn rc, .slice ra2 rn rc2] W fun e w' => e = .returned (.bool true) ∧ Below W.heap.size W w') := fun W h => HSR0.out W (below_then hBc h)
      have HSI : Hid (∀ W, Below wc.heap.size wc W → Calls Tryd.prog 17 #[.slice ua un uc, .slice ua2 un uc2] W fun e w' => e = .returned (.bool true) ∧ Below W.heap.size W w') := fun W h => HSI0.out W (below_then hBc h)
      have HSB : Hid (∀ W, Below wc.heap.size wc W → Calls Tryd.prog 18 #[.slice sa sn sc, .slice sa2 sn sc2] W fun e w' => e = .returned (.bool true) ∧ Below W.heap.size W w') := fun W h => HSB0.out W (below_then hBc h)
      have HAW : Hid (∀ W, Below wc.heap.size wc W → Calls Tryd.prog 10 #[] W fun e w' => e = .returned (.bool true) ∧ Below W.heap.size W w') := fun W h => HAW0.out W (below_then hBc h)
      have hb7 := below_then hb6 hBc
      clear HC HD hBc hb6 HSR0 HSI0 HSB0 HAW0 HSE
      go_wp2_with fail
      go_region_held3 (fun w' => w'.cell? ⟨b8, 2, none⟩ = some (.slice ra rn rc) ∧ w'.cell? ⟨b8, 3, none⟩ = some (.slice ua un uc) ∧ w'.cell? ⟨b8, 4, none⟩ = some (.slice sa sn sc) ∧ w'.cell? ⟨br, 4, none⟩ = some (.slice ra2 rn rc2) ∧ w'.cell? ⟨br, 5, none⟩ = some (.slice ua2 un uc2) ∧ w'.cell? ⟨br, 6, none⟩ = some (.slice sa2 sn sc2)) (first | exact ⟨c2, c3, c4, e4, e5, e6⟩ | exact ⟨c2_8, c3_8, c4_8, e4_8, e5_8, e6_8⟩ | exact ⟨c2_7, c3_7, c4_7, e4_7, e5_7, e6_7⟩ | exact ⟨c2_6, c3_6, c4_6, e4_6, e5_6, e6_6⟩ | exact ⟨c2_5, c3_5, c4_5, e4_5, e5_5, e6_5⟩) (first | (go_at_call 16; refine (HSR.out _ (by first | exact ((Below.refl _ _).drew : Below wc.heap.size wc wc.drew))).mono ?_; rintro e v5 ⟨rfl, hz5⟩; have hX5 : Below wc.heap.size wc v5 := below_then (by first | exact ((Below.refl _ _).drew : Below wc.heap.size wc wc.drew)) hz5; obtain ⟨c2_5, c3_5, c4_5, e4_5, e5_5, e6_5⟩ := HC2.out _ hX5) | (go_at_call 17; refine (HSI.out _ (by first | exact hX5 | exact ((Below.refl _ _).drew : Below wc.heap.size wc wc.drew))).mono ?_; rintro e v6 ⟨rfl, hz6⟩; have hX6 : Below wc.heap.size wc v6 := below_then (by first | exact hX5 | exact ((Below.refl _ _).drew : Below wc.heap.size wc wc.drew)) hz6; obtain ⟨c2_6, c3_6, c4_6, e4_6, e5_6, e6_6⟩ := HC2.out _ hX6) | (go_at_call 18; refine (HSB.out _ (by first | exact hX6 | exact hX5 | exact ((Below.refl _ _).drew : Below wc.heap.size wc wc.drew))).mono ?_; rintro e v7 ⟨rfl, hz7⟩; have hX7 : Below wc.heap.size wc v7 := below_then (by first | exact hX6 | exact hX5 | exact ((Below.refl _ _).drew : Below wc.heap.size wc wc.drew)) hz7; obtain ⟨c2_7, c3_7, c4_7, e4_7, e5_7, e6_7⟩ := HC2.out _ hX7) | (go_at_call 10; refine (HAW.out _ (by first | exact hX7 | exact hX6 | exact hX5 | exact ((Below.refl _ _).drew : Below wc.heap.size wc wc.drew))).mono ?_; rintro e v8 ⟨rfl, hz8⟩; have hX8 : Below wc.heap.size wc v8 := below_then (by first | exact hX7 | exact hX6 | exact hX5 | exact ((Below.refl _ _).drew : Below wc.heap.size wc wc.drew)) hz8; obtain ⟨c2_8, c3_8, c4_8, e4_8, e5_8, e6_8⟩ := HC2.out _ hX8))
      all_goals
        go_wp2_with fail
        go_ret
        exact ⟨rfl, below_then hb7 hX8⟩
end Go.Proofs.YtpmapdialjdcbaaDoor
