/-
  Whether a line's numbers may be; the first line whose numbers may not.
-/
import Derived.Test.YtdpagipbaddnfaaDoorStm3
namespace Go.Proofs.YtdpagipbaddnfaaDoor
open Go.RowKit L3
open C2 (inB shapeI insV Tab)

theorem awithin_any (v lo hi : Int) (w : World) : Calls Tryd.prog 69 #[.int .i64 v, .int .i64 lo, .int .i64 hi] w fun e w' => e = .returned (.bool (inB v lo hi)) ∧ w' = w := by
  by_cases h1 : lo ≤ v
  · by_cases h2 : v ≤ hi
    · have e : inB v lo hi = true := by simp [inB, h1, h2]
      rw [e]
      clear e
      go_enter Tryd.func69, Tryd.ntmps69
      go_wp2
      go_ret
      exact ⟨rfl, rfl⟩
    · have e : inB v lo hi = false := by simp [inB, h2]
      have h3 : decide (v ≤ hi) = false := by simpa using h2
      rw [e]
      clear e
      go_enter Tryd.func69, Tryd.ntmps69
      go_wp2
      go_ret
      exact ⟨rfl, rfl⟩
  · have e : inB v lo hi = false := by simp [inB, h1]
    have h3 : decide (lo ≤ v) = false := by simpa using h1
    rw [e]
    clear e
    go_enter Tryd.func69, Tryd.ntmps69
    go_wp2
    go_ret
    exact ⟨rfl, rfl⟩
theorem one_op {w : World} {v : Value} {xs : List Int} (h : SlN w v xs) (h1 : xs.length = 1) : ∃ g f c, v = .slice (some ⟨g, f, none⟩) 1 c ∧ w.cell? ⟨g, f, none⟩ = some (.int .i64 (x0 xs)) := by
  obtain ⟨a, c, rfl, hk⟩ := h
  obtain ⟨g, f, rfl, hc⟩ := hk 0 (by omega)
  refine ⟨g, f, c, by rw [h1], ?_⟩
  have e : x0 xs = xs[0] := by simp [x0, List.getD_eq_getElem?_getD, List.getElem?_eq_getElem (show 0 < xs.length by omega)]
  rw [e]
  simpa using hc
set_option maxRecDepth 4000 in
theorem inRange_any (k : Nat) (xs : List Int) (l : Int) (v : Value) (w : World) (hT : Tab w) (hS : SlN w v xs) (hx : (xs.length : Int) = opsOf k) (hk : k ≤ 19) :
    Calls Tryd.prog 51 #[.agg #[.int .i64 (k : Int), v, .int .i64 l]] w fun e w' => e = .returned (.bool (rangeB ⟨k, xs, l⟩)) ∧ Below w.heap.size w w' := by
  have hb : Below w.heap.size w (w.alloc (.cells #[.int .i64 (k : Int), v, .int .i64 l] 102)) := below_one _ _
  by_cases h15 : k ≤ 15
  · have e1 : ((k : Int) == 16) = false := by simp; omega
    have e2 : ((k : Int) == 17) = false := by simp; omega
    have e3 : ((k : Int) == 18) = false := by simp; omega
    have e4 : ((k : Int) == 19) = false := by simp; omega
    have e5 : rangeB ⟨k, xs, l⟩ = shapeI (insOf k xs) := by
      simp only [rangeB]
      rw [if_neg (by omega), if_neg (by omega), if_neg (by omega), if_neg (by omega)]
    have h3 : xs.length ≤ 3 := by have := opsOf_bd k; omega
    have hS2 := hS.kept hb
    have hins := instruction_any k xs v _ h3 hS2
    rw [e5]
    obtain ⟨a, c, rfl, _⟩ := hS
    have hT2 := hT.below hb
    have HB : Hid (Below w.heap.size w (w.alloc (.cells #[.int .i64 (k : Int), .slice a xs.length c, .int .i64 l] 102))) := hb
    clear e5 h3 hS2 hb hT
    go_enter Tryd.func51, Tryd.ntmps51
    go_wp2_with fail
    refine hins.mono ?_
    rintro e w1 ⟨rfl, hb1⟩
    have hT3 := hT2.below hb1
    unfold insV
    go_wp2_with fail
    refine (C2.shape_any _ _ _ _ w1 hT3).mono ?_
    rintro e w2 ⟨rfl, hb2⟩
    have HP : Hid (Below w.heap.size w w2) := below_then (below_then HB.out hb1) hb2
    go_wp2_with fail
    go_ret
    exact ⟨rfl, HP.out⟩
  · have hk4 : k = 16 ∨ k = 17 ∨ k = 18 ∨ k = 19 := by omega
    rcases hk4 with rfl | rfl | rfl | rfl
    · obtain ⟨g, f, c, rfl, hc⟩ := one_op hS (by have : opsOf 16 = 1 := rfl; omega)
      have hg := block_lt_of_cell hc
      have e5 : rangeB ⟨16, xs, l⟩ = inB (x0 xs) 0 16 := rfl
      rw [e5]
      have HB : Hid _ := hb
      clear hb hS e5
      go_enter Tryd.func51, Tryd.ntmps51
      go_wp2_with (go_at_call 69; refine (awithin_any _ _ _ _).mono ?_; rintro e w1 ⟨rfl, rfl⟩)
      go_ret
      exact ⟨rfl, HB.out⟩
    · obtain ⟨g, f, c, rfl, hc⟩ := one_op hS (by have : opsOf 17 = 1 := rfl; omega)
      have hg := block_lt_of_cell hc
      have e5 : rangeB ⟨17, xs, l⟩ = inB (x0 xs) 0 5 := rfl
      rw [e5]
      have HB : Hid _ := hb
      clear hb hS e5
      go_enter Tryd.func51, Tryd.ntmps51
      go_wp2_with (go_at_call 69; refine (awithin_any _ _ _ _).mono ?_; rintro e w1 ⟨rfl, rfl⟩)
      go_ret
      exact ⟨rfl, HB.out⟩
    · obtain ⟨g, f, c, rfl, hc⟩ := one_op hS (by have : opsOf 18 = 1 := rfl; omega)
      have hg := block_lt_of_cell hc
      have e5 : rangeB ⟨18, xs, l⟩ = inB (x0 xs) 1 500 := rfl
      rw [e5]
      have HB : Hid _ := hb
      clear hb hS e5
      go_enter Tryd.func51, Tryd.ntmps51
      go_wp2_with (go_at_call 69; refine (awithin_any _ _ _ _).mono ?_; rintro e w1 ⟨rfl, rfl⟩)
      go_ret
      exact ⟨rfl, HB.out⟩
    · obtain ⟨a, c, rfl, _⟩ := hS
      have e5 : rangeB ⟨19, xs, l⟩ = true := rfl
      rw [e5]
      have HB : Hid _ := hb
      clear hb e5
      go_enter Tryd.func51, Tryd.ntmps51
      go_wp2_with fail
      go_ret
      exact ⟨rfl, HB.out⟩
theorem SlS.at {w : World} {sa : Option Addr} {sc : Nat} {all : List Sm} (h : SlS w (.slice sa all.length sc) all) {k : Nat} (hk : k < all.length) : ∃ g f oa ol oc, sa = some ⟨g, f, none⟩ ∧ w.cell? ⟨g, f + k * 3, none⟩ = some (.int .i64 (all[k].k : Int)) ∧ w.cell? ⟨g, f + k * 3 + 1, none⟩ = some (.slice oa ol oc) ∧ w.cell? ⟨g, f + k * 3 + 2, none⟩ = some (.int .i64 all[k].l) ∧ SlN w (.slice oa ol oc) all[k].xs := by
  obtain ⟨a, c, e, hh⟩ := h
  simp at e
  obtain ⟨rfl, rfl⟩ := e
  exact hh k hk
set_option maxRecDepth 4000 in
theorem firstOut_any (all : List Sm) (sa : Option Addr) (sc : Nat) (w : World) (hT : Tab w) (hS : SlS w (.slice sa all.length sc) all) (ho : Oks all) (hn : all.length ≤ 20000) :
    Calls Tryd.prog 24 #[.slice sa all.length sc] w fun e w' => e = .returned (.int .i64 (outF all)) ∧ Below w.heap.size w w' := by
  go_enter Tryd.func24, Tryd.ntmps24
  go_wp2_with fail
  go_loopw [7] (fun i wr => ∃ k : Nat, k ≤ all.length ∧ i = .int .i64 k ∧ outF all = outF (all.drop k) ∧ Below w.heap.size w wr) (fun i _ => all.length - (intOf i).toNat)
  case atStart => exact ⟨0, by omega, rfl, rfl, Below.refl _ _⟩
  case round =>
    obtain ⟨k, hk, rfl, hout, hb⟩ := hrel
    by_cases hlt : k < all.length
    · obtain ⟨g, f, oa, ol, oc, rfl, c0, c1, c2, hN⟩ := (hS.kept hb).at hlt
      have hg := block_lt_of_cell c0
      have hok := ho k hlt
      rw [List.drop_eq_getElem_cons hlt] at hout
      obtain ⟨s, hs⟩ : ∃ s, all[k] = s := ⟨_, rfl⟩
      rw [hs] at c0 c2 hN hok hout
      have hrg := inRange_any s.k s.xs s.l (.slice oa ol oc) (wr.alloc (.cells #[.int .i64 (s.k : Int), .slice oa ol oc, .int .i64 s.l] 102)) (hT.below (below_alloc hb _)) (hN.kept (below_one _ _)) hok.ops hok.hi
      have HO : Hid (outF all = outF (s :: all.drop (k + 1))) := hout
      have HB : Hid (Below w.heap.size w wr) := hb
      clear hs hN hok hout hb
      cases hr : rangeB s with
      | true =>
        have hr' : rangeB ⟨s.k, s.xs, s.l⟩ = true := hr
        have HO2 : Hid (outF all = outF (all.drop (k + 1))) := by have := HO.out; simp only [outF, hr, if_true] at this; exact this
        rw [hr'] at hrg
        clear hr hr' HO
        go_wp2_with fail
        refine hrg.mono ?_
        rintro e w1 ⟨rfl, hb1⟩
        have HB2 : Hid (Below w.heap.size w w1) := below_then (below_alloc HB.out _) hb1
        clear hb1
        go_wp2_with fail
        go_roundw
        case rel => exact ⟨k + 1, by omega, by go_num, HO2.out, HB2.out⟩
        case measure => simp [intOf]; omega
      | false =>
        have hr' : rangeB ⟨s.k, s.xs, s.l⟩ = false := hr
        have ho2 : outF all = s.l := by have := HO.out; simp only [outF, hr] at this; simpa using this
        have HO2 : Hid (outF all = s.l) := ho2
        rw [hr'] at hrg
        clear hr hr' HO ho2
        go_wp2_with fail
        refine hrg.mono ?_
        rintro e w1 ⟨rfl, hb1⟩
        have HB2 : Hid (Below w.heap.size w w1) := below_then (below_alloc HB.out _) hb1
        have d2 : w1.cell? ⟨wr.heap.size, 2, none⟩ = some (.int .i64 s.l) := by
          rw [World.cell?_of_block (hb1.block _ (by simp))]
          simp
        clear hb1
        go_wp2_with fail
        go_ret
        exact ⟨by rw [HO2.out]; rfl, HB2.out⟩
    · obtain rfl : k = all.length := by omega
      rw [List.drop_length] at hout
      have HO : Hid (outF all = 0) := hout
      have HB : Hid (Below w.heap.size w wr) := hb
      clear hout hb
      go_wp2_with fail
      go_ret
      exact ⟨by rw [HO.out]; rfl, HB.out⟩
end Go.Proofs.YtdpagipbaddnfaaDoor
