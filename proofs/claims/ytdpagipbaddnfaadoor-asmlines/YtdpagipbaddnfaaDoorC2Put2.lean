/-
  What package code's Put answers, and the two that it asks first.
-/
import Derived.Test.YtdpagipbaddnfaaDoorC2Put
import Derived.Test.YtdpagipbaddnfaaDoorC2Data
namespace Go.Proofs.YtdpagipbaddnfaaDoor.C2
open Go.RowKit

set_option maxHeartbeats 400000 in
theorem big_any (fs : List (List In)) (fv : Value) (futs depth fuel : Int) (w : World) (hF : SlF w fv fs) (hn : fs.length ≤ 1000000) (hm : ∀ f ∈ fs, f.length ≤ 1000000) :
    Calls Tryd.prog 47 #[.agg #[fv, .int .i64 futs, .int .i64 depth, .int .i64 fuel]] w fun e w' => e = .returned (.bool (bigB fs)) ∧ w' = w.alloc (.cells #[fv, .int .i64 futs, .int .i64 depth, .int .i64 fuel] 24) := by
  obtain ⟨ad, cap, rfl, hx⟩ := hF
  by_cases h12 : 12 < fs.length
  · have e : bigB fs = true := by simp [bigB, h12]
    rw [e]
    clear e
    go_enter Tryd.func47, Tryd.ntmps47
    go_wp2
    go_ret
    exact ⟨rfl, rfl⟩
  · have hd : decide ((12 : Int) < (fs.length : Int)) = false := by simp; omega
    go_enter Tryd.func47, Tryd.ntmps47
    go_wp2
    go_loop [12] (fun i => ∃ k : Nat, k ≤ fs.length ∧ i = .int .i64 k ∧ ∀ j (h : j < fs.length), j < k → ¬ 40 < fs[j].length) (fun i => fs.length - (intOf i).toNat)
    case atStart => exact ⟨0, by omega, rfl, by omega⟩
    case round =>
      obtain ⟨k, hk, rfl, hall⟩ := hrel
      by_cases hlt : k < fs.length
      · obtain ⟨g, f, u, rfl, hc, ad', cap', rfl, -⟩ := hx k hlt
        have hm' := hm _ (List.getElem_mem hlt)
        have hgl : g < w.heap.size := block_lt_of_cell hc
        by_cases h40 : 40 < fs[k].length
        · go_wp2
          go_ret
          exact ⟨ret_bool (big_at hlt h40).symm, rfl⟩
        · go_wp2
          go_round
          case rel => exact ⟨k + 1, by omega, by go_num, fun j h hj => by rcases (by omega : j < k ∨ j = k) with h' | rfl; exact hall j h h'; exact h40⟩
          case measure => simp [intOf]; omega
      · go_wp2
        go_ret
        exact ⟨ret_bool (big_not h12 fun j h => hall j h (by omega)).symm, rfl⟩

theorem bcell {W w1 : World} (hb : Below W.heap.size W w1) : (∀ b o, b < W.heap.size → w1.cell? ⟨b, o, none⟩ = W.cell? ⟨b, o, none⟩) ∧ (∀ b o, b < W.heap.size → w1.frozen? ⟨b, o, none⟩ = W.frozen? ⟨b, o, none⟩) :=
  ⟨fun b o h => hb.cell (p := ⟨b, o, none⟩) h, fun b o h => hb.frozen (p := ⟨b, o, none⟩) h⟩
theorem box_prog (w : World) (fv : Value) (futs depth fuel : Int) {wr : World} (h : Below (w.heap.size + 1) (w.alloc (.cells #[fv, .int .i64 futs, .int .i64 depth, .int .i64 fuel] 24)) wr) :
    wr.cell? ⟨w.heap.size, 0, none⟩ = some fv ∧ wr.cell? ⟨w.heap.size, 1, none⟩ = some (.int .i64 futs) ∧ wr.cell? ⟨w.heap.size, 2, none⟩ = some (.int .i64 depth) ∧ wr.cell? ⟨w.heap.size, 3, none⟩ = some (.int .i64 fuel) := by
  refine ⟨?_, ?_, ?_, ?_⟩ <;> rw [h.cell (by simp)] <;> simp
theorem sound_no {p : Pr} {k j : Nat} (h : k < p.fs.length) (h2 : j < p.fs[k].length) (h3 : shapeI p.fs[k][j] = false) : soundB p = false := by
  have : (p.fs.all fun f => f.all shapeI) = false := by
    rw [List.all_eq_false]
    refine ⟨p.fs[k], List.getElem_mem h, ?_⟩
    rw [Bool.not_eq_true, List.all_eq_false]
    exact ⟨_, List.getElem_mem h2, by simp [h3]⟩
  simp [soundB, this]
theorem sound_yes {p : Pr} (h : ∀ k (h : k < p.fs.length) j (h2 : j < p.fs[k].length), shapeI p.fs[k][j] = true) : soundB p = (inB p.futs 0 16 && inB p.depth 0 5 && inB p.fuel 1 500) := by
  have : (p.fs.all fun f => f.all shapeI) = true := by
    rw [List.all_eq_true]
    intro f hf
    obtain ⟨k, hk, rfl⟩ := List.getElem_of_mem hf
    rw [List.all_eq_true]
    intro i hi
    obtain ⟨j, hj, rfl⟩ := List.getElem_of_mem hi
    exact h k hk j hj
  simp [soundB, this]
set_option maxHeartbeats 1000000 in
theorem sound_any (p : Pr) (fv : Value) (w : World) (hT : Tab w) (hF : SlF w fv p.fs) (hn : p.fs.length ≤ 1000000) (hm : ∀ f ∈ p.fs, f.length ≤ 1000000) :
    Calls Tryd.prog 48 #[.agg #[fv, .int .i64 p.futs, .int .i64 p.depth, .int .i64 p.fuel]] w fun e w' => e = .returned (.bool (soundB p)) ∧ Below w.heap.size w w' := by
  have hb1 : Below w.heap.size w (w.alloc (.cells #[fv, .int .i64 p.futs, .int .i64 p.depth, .int .i64 p.fuel] 24)) := (Below.refl _ _).alloc (Nat.le_refl _) _
  have hF1 := hF.still (still_of_below hb1)
  have hT1 := hT.below hb1
  obtain ⟨ad, cap, rfl, -⟩ := hF
  go_enter Tryd.func48, Tryd.ntmps48
  go_wp2
  go_loopw [10] (fun i wr => ∃ k : Nat, k ≤ p.fs.length ∧ i = .int .i64 k ∧ (∀ k' (h : k' < p.fs.length) j (h2 : j < p.fs[k'].length), k' < k → shapeI p.fs[k'][j] = true) ∧ Below (w.heap.size + 1) (w.alloc (.cells #[.slice ad p.fs.length cap, .int .i64 p.futs, .int .i64 p.depth, .int .i64 p.fuel] 24)) wr) (fun i _ => p.fs.length - (intOf i).toNat)
  case atStart => exact ⟨0, by omega, rfl, by omega, Below.refl _ _⟩
  case round =>
    obtain ⟨k, hk, rfl, hall, hB⟩ := hrel
    have hB' : Below (w.alloc (.cells #[.slice ad p.fs.length cap, .int .i64 p.futs, .int .i64 p.depth, .int .i64 p.fuel] 24)).heap.size (w.alloc (.cells #[.slice ad p.fs.length cap, .int .i64 p.futs, .int .i64 p.depth, .int .i64 p.fuel] 24)) wr := by simpa using hB
    have hFr := hF1.still (still_of_below hB')
    by_cases hlt : k < p.fs.length
    · obtain ⟨ad1, cap1, he, hx⟩ := hFr
      obtain ⟨rfl, rfl⟩ : ad1 = ad ∧ cap1 = cap := by simp at he; exact ⟨he.1.symm, he.2.symm⟩
      clear he
      obtain ⟨g, f, u, rfl, hc, ad', cap', rfl, hI⟩ := hx k hlt
      have hm' := hm _ (List.getElem_mem hlt)
      clear hx
      obtain ⟨W, rfl⟩ : ∃ W, W = wr := ⟨wr, rfl⟩
      go_wp2
      go_loopw [16] (fun i wi => ∃ j : Nat, j ≤ p.fs[k].length ∧ i = .int .i64 j ∧ (∀ j' (h2 : j' < p.fs[k].length), j' < j → shapeI p.fs[k][j'] = true) ∧ Below W.heap.size W wi) (fun i _ => p.fs[k].length - (intOf i).toNat)
      case atStart => exact ⟨0, by omega, rfl, by omega, Below.refl _ _⟩
      case round =>
        obtain ⟨j, hj, rfl, hallj, hBi⟩ := hrel
        have hTi : Tab wr := hT1.below (hB'.trans (hBi.mono hB'.size))
        by_cases hjl : j < p.fs[k].length
        · obtain ⟨g', f', rfl, hA⟩ := hI j hjl
          obtain ⟨c0, c1, c2, c3⟩ := hA.still (still_of_below hBi)
          have hgl : g' < wr.heap.size := block_lt_of_cell c0
          have hTa : Tab (wr.alloc (.cells #[.int .i64 p.fs[k][j].o, .int .i64 p.fs[k][j].a, .int .i64 p.fs[k][j].b, .int .i64 p.fs[k][j].c] 50)) := hTi.below ((Below.refl _ _).alloc (Nat.le_refl _) _)
          by_cases hs : shapeI p.fs[k][j] = true
          · have hs' : shapeB p.fs[k][j].o p.fs[k][j].a p.fs[k][j].b p.fs[k][j].c = true := hs
            go_wp2_with (go_at_call 65; refine (shape_any _ _ _ _ _ hTa).mono ?_; rintro e w2 ⟨rfl, hb2⟩)
            go_roundw
            case rel => exact ⟨j + 1, by omega, by go_num, fun j' h hj' => by rcases (by omega : j' < j ∨ j' = j) with h' | rfl; exact hallj j' h h'; exact hs, (hBi.alloc hBi.size _).trans (hb2.mono (by have := hBi.size; simp; omega))⟩
            case measure => simp [intOf]; omega
          · rw [Bool.not_eq_true] at hs
            have hs' : shapeB p.fs[k][j].o p.fs[k][j].a p.fs[k][j].b p.fs[k][j].c = false := hs
            go_wp2_with (go_at_call 65; refine (shape_any _ _ _ _ _ hTa).mono ?_; rintro e w2 ⟨rfl, hb2⟩)
            go_ret
            exact ⟨ret_bool (sound_no hlt hjl hs).symm, hb1.trans ((hB.mono (by omega)).trans (((hBi.alloc hBi.size _).trans (hb2.mono (by have := hBi.size; simp; omega))).mono (by have := hB'.size; simp at this; omega)))⟩
        · go_wp2
          go_roundw
          case rel => exact ⟨k + 1, by omega, by go_num, fun k' h j' h2 hk' => by rcases (by omega : k' < k ∨ k' = k) with h' | rfl; exact hall k' h j' h2 h'; exact hallj j' h2 (by omega), hB.trans (hBi.mono (by have := hB'.size; simp at this; omega))⟩
          case measure => simp [intOf]; omega
    · have e := sound_yes (p := p) fun k' h j h2 => hall k' h j h2 (by omega)
      have E : Hid (soundB p = (inB p.futs 0 16 && inB p.depth 0 5 && inB p.fuel 1 500)) := e
      clear e
      obtain ⟨-, c1, c2, c3⟩ := box_prog w _ _ _ _ hB
      cases a1 : inB p.futs 0 16
      · go_wp2_with (go_at_call 66; refine (within_any _ _ _ _).mono ?_; rintro e w' ⟨rfl, rfl⟩)
        go_ret
        exact ⟨ret_bool (by rw [E.out, a1]; rfl), hb1.trans (hB.mono (by omega))⟩
      · cases a2 : inB p.depth 0 5
        · go_wp2_with (go_at_call 66; refine (within_any _ _ _ _).mono ?_; rintro e w' ⟨rfl, rfl⟩)
          go_ret
          exact ⟨ret_bool (by rw [E.out, a1, a2]; rfl), hb1.trans (hB.mono (by omega))⟩
        · cases a3 : inB p.fuel 1 500
          · go_wp2_with (go_at_call 66; refine (within_any _ _ _ _).mono ?_; rintro e w' ⟨rfl, rfl⟩)
            go_ret
            exact ⟨ret_bool (by rw [E.out, a1, a2, a3]; rfl), hb1.trans (hB.mono (by omega))⟩
          · go_wp2_with (go_at_call 66; refine (within_any _ _ _ _).mono ?_; rintro e w' ⟨rfl, rfl⟩)
            go_ret
            exact ⟨ret_bool (by rw [E.out, a1, a2, a3]; rfl), hb1.trans (hB.mono (by omega))⟩
end Go.Proofs.YtdpagipbaddnfaaDoor.C2