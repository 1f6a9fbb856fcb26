/-
  AsmShapes: the walk.
-/
import Derived.Test.YtdpagipbaddnfaaDoorAwake4
import Derived.Test.YtdpagipbaddnfaaDoorL3Place
import Derived.LoopTactic
namespace Go.Proofs.YtdpagipbaddnfaaDoor
open Go.RowKit L3
open C2 (Tab)

theorem Parse_l {l : List UInt8} {s : ByteArray} (hs : s = strB l) (w : World) (hT : Tab w) (hF : FTab w) : Calls Tryd.prog 10 #[.string s] w fun e w' => ParsePost l w e w' := by
  subst hs
  exact Parse_any l w hT hF
theorem bad_index (k : Nat) (hk : k < 8) (w : World) : (Instr.index 44 (.agg #[.string ⟨#[114, 101, 116, 32, 56]⟩, .string ⟨#[97, 100, 100, 32, 48, 44, 32, 56, 44, 32, 48]⟩, .string ⟨#[106, 111, 105, 110, 32, 48, 44, 32, 52]⟩, .string ⟨#[102, 111, 114, 107, 32, 48, 44, 32, 49, 50, 44, 32, 48]⟩, .string ⟨#[115, 101, 116, 32, 49, 54, 44, 32, 48]⟩, .string ⟨#[103, 101, 116, 32, 48, 44, 32, 45, 49]⟩, .string ⟨#[106, 117, 109, 112, 32, 52, 48]⟩, .string ⟨#[99, 111, 110, 115, 116, 32, 56, 44, 32, 49]⟩]) (.int .i64 (k : Int))).run Tryd.prog w = .ok (.string (strB (badS k))) w := by
  rcases (by omega : k = 0 ∨ k = 1 ∨ k = 2 ∨ k = 3 ∨ k = 4 ∨ k = 5 ∨ k = 6 ∨ k = 7) with rfl | rfl | rfl | rfl | rfl | rfl | rfl | rfl <;> kernel_rfl
theorem reps_length : ∀ n, (reps n).length = 6 * n
  | 0 => rfl
  | n + 1 => by rw [reps, List.length_append, reps_length n]; simp [yieldS]; omega
theorem bad_length : ∀ k, k < 8 → (badS k).length ≤ 14 := by decide
theorem place_nat (a n : Int) (h : 0 < n) : ∃ k : Nat, placeI a n = (k : Int) ∧ (k : Int) < n := by
  obtain ⟨h1, h2⟩ := placeI_bd a n h
  exact ⟨(placeI a n).toNat, by omega, by omega⟩
/-- what the walk needs of its texts: R j, the text behind j rounds -/
structure ShAt (R : Nat → List UInt8) (bl tl rl : List UInt8) (n : Nat) : Prop where
  f0 : strB (R 0) = ⟨#[102, 117, 116, 117, 114, 101, 115, 32, 48, 10, 100, 101, 112, 116, 104, 32, 48, 10, 102, 117, 101, 108, 32, 49, 10, 102, 117, 110, 99, 116, 105, 111, 110, 10]⟩
  fs : ∀ j, strB (R j) ++ ⟨#[121, 105, 101, 108, 100, 10]⟩ = strB (R (j + 1))
  fl : ∀ j, j ≤ n → (R j).length ≤ 200
  fb : bl.length ≤ 14
  ft : strB tl = ⟨#[10, 114, 101, 116, 32, 48, 10, 114, 101, 116, 32, 57, 10]⟩
  fg : strB rl = ⟨#[114, 101, 116, 32, 48, 10]⟩
  bad : ∃ p, parseF (R n ++ bl ++ tl) = (p, ((n : Int) + 5, 3)) ∧ p.fs = []
  good : ∃ p x f, parseF (R n ++ rl) = (p, (x, 0)) ∧ p.fs = [f] ∧ f.length = n + 1
theorem shAt {n k : Nat} (hn : n < 20) (hk : k < 8) : ∃ R tl rl, ShAt R (badS k) tl rl n :=
  ⟨fun j => headS ++ reps j, tailS, ret0S, ⟨by rfl, fun j => by rw [show headS ++ reps (j + 1) = (headS ++ reps j) ++ yieldS by simp [reps]]; exact strB_append _ yieldS, fun j hj => by rw [List.length_append, reps_length]; simp [headS]; omega, bad_length k hk, by rfl, by rfl, sh_bad_at hn hk, sh_good_at hn⟩⟩
set_option maxRecDepth 4000 in
set_option maxHeartbeats 1000000 in
theorem shapes_walk (a c : Int) (W : World) (hT : Tab W) (hF : FTab W) : Calls Tryd.prog 6 #[.int .i64 a, .int .i64 c] W fun e w' => e = .returned (.bool true) ∧ Below W.heap.size W w' := by
  obtain ⟨k, hk, hk8⟩ := place_nat a 8 (by omega)
  obtain ⟨n, hn, hn20⟩ := place_nat c 20 (by omega)
  have hp1 := L3.place_any a 8 W (by omega) (by omega)
  have hp2 := L3.place_any c 20 W (by omega) (by omega)
  rw [hk] at hp1
  rw [hn] at hp2
  have hidx := fun w => bad_index k (by omega) w
  obtain ⟨R, tl, rl, hA⟩ := shAt (n := n) (k := k) (by omega) (by omega)
  obtain ⟨bl, hbl⟩ : ∃ bl, badS k = bl := ⟨_, rfl⟩
  rw [hbl] at hidx hA
  have HA : Hid (ShAt R bl tl rl n) := hA
  have hr0 : Value.string ⟨#[102, 117, 116, 117, 114, 101, 115, 32, 48, 10, 100, 101, 112, 116, 104, 32, 48, 10, 102, 117, 101, 108, 32, 49, 10, 102, 117, 110, 99, 116, 105, 111, 110, 10]⟩ = .string (strB (R 0)) := by rw [hA.f0]
  have HR0 : Hid (Value.string ⟨#[102, 117, 116, 117, 114, 101, 115, 32, 48, 10, 100, 101, 112, 116, 104, 32, 48, 10, 102, 117, 101, 108, 32, 49, 10, 102, 117, 110, 99, 116, 105, 111, 110, 10]⟩ = .string (strB (R 0))) := hr0
  clear hbl hk hn hA hr0
  go_enter Tryd.func6, Tryd.ntmps6
  go_wp2_with fail
  refine hp1.mono ?_
  rintro e w1 ⟨rfl, hw1⟩
  subst hw1
  go_wp2_with fail
  refine hp2.mono ?_
  rintro e w2 ⟨rfl, hw2⟩
  subst hw2
  go_wp2_with fail
  rw [HR0.out]
  go_loopw [8, 9] (fun s i wr => ∃ j : Nat, j ≤ n ∧ i = .int .i64 j ∧ s = .string (strB (R j)) ∧ wr = w2) (fun _ i _ => n - (intOf i).toNat)
  case atStart => exact ⟨0, by omega, rfl, rfl, rfl⟩
  case round =>
    obtain ⟨j, hj, rfl, rfl, rfl⟩ := hrel
    have hlen := HA.out.fl j hj
    have hss : (strB (R j)).size = (R j).length := strB_size _
    by_cases hlt : j < n
    · have HN : Hid (Value.string (strB (R j) ++ ⟨#[121, 105, 101, 108, 100, 10]⟩) = .string (strB (R (j + 1)))) := congrArg Value.string (HA.out.fs j)
      obtain ⟨S, hS⟩ : ∃ S, strB (R j) = S := ⟨_, rfl⟩
      rw [hS] at HN hss ⊢
      have hsz : ¬ 9223372036854775807 < (R j).length + 6 := by omega
      clear hS
      go_wp2_with fail
      go_roundw
      case rel => exact ⟨j + 1, by omega, by go_num, HN.out, trivial⟩
      case measure => simp [intOf]; omega
    · obtain rfl : j = n := by omega
      have hcat : strB (R j) ++ strB bl ++ ⟨#[10, 114, 101, 116, 32, 48, 10, 114, 101, 116, 32, 57, 10]⟩ = strB (R j ++ bl ++ tl) := by rw [← HA.out.ft, strB_append, strB_append]
      have hcat2 : strB (R j) ++ ⟨#[114, 101, 116, 32, 48, 10]⟩ = strB (R j ++ rl) := by rw [← HA.out.fg, strB_append]
      have hsb : (strB bl).size = bl.length := strB_size _
      have hb14 := HA.out.fb
      obtain ⟨pb, hpb, hpf⟩ := HA.out.bad
      obtain ⟨pg, xg, fg, hpg, hgf, hgl⟩ := HA.out.good
      have hPB := Parse_l hcat wr hT hF
      have hPG := fun (w' : World) (hb : Below wr.heap.size wr w') => Parse_l hcat2 w' (hT.below hb) (hF.below hb)
      unfold ParsePost at hPB hPG
      rw [hpb, hpf] at hPB
      rw [hpg, hgf] at hPG
      simp only at hPB hPG
      have HGL : Hid (fg.length = j + 1) := hgl
      clear hpb hpf hpg hgf hgl hcat hcat2 hidx hp1 hp2 HA HR0
      obtain ⟨S, hS⟩ : ∃ S, strB (R j) = S := ⟨_, rfl⟩
      rw [hS] at hss hPB hPG ⊢
      obtain ⟨S2, hS2⟩ : ∃ S, strB bl = S := ⟨_, rfl⟩
      rw [hS2] at hsb hPB ⊢
      clear hS hS2
      go_wp2_with fail
      refine hPB.mono ?_
      rintro e w3 ⟨fa, fl, fc, rfl, hS3, hb3⟩
      obtain ⟨rfl, _⟩ := slF_at hS3
      have hPG2 := hPG (w3.alloc (.cells #[.slice fa 0 fc, .int .i64 pb.futs, .int .i64 pb.depth, .int .i64 pb.fuel] 24)) (below_alloc hb3 _)
      have HB3 : Hid (Below wr.heap.size wr w3) := hb3
      clear hPB hPG hS3 hb3
      simp only [List.length_nil]
      go_wp2_with fail
      refine hPG2.mono ?_
      rintro e w4 ⟨fa2, fl2, fc2, rfl, hS4, hb4⟩
      obtain ⟨rfl, hk4⟩ := slF_at hS4
      obtain ⟨g, f, ia, ic, rfl, c0, _⟩ := hk4 0 (by simp)
      simp only [List.getElem_cons_zero, HGL.out, Nat.add_zero] at c0
      have d0 : w4.cell? ⟨w3.heap.size, 0, none⟩ = some (.slice fa 0 fc) := by
        rw [World.cell?_of_block (hb4.block _ (by simp))]
        simp
      have hd := block_lt_of_cell d0
      have hg := block_lt_of_cell c0
      have hb5 := below_alloc (below_then (below_alloc HB3.out (.cells #[.slice fa 0 fc, .int .i64 pb.futs, .int .i64 pb.depth, .int .i64 pb.fuel] 24)) hb4) (.cells #[.slice (some ⟨g, f, none⟩) 1 fc2, .int .i64 pg.futs, .int .i64 pg.depth, .int .i64 pg.fuel] 24)
      have haw := awake_any (w4.alloc (.cells #[.slice (some ⟨g, f, none⟩) 1 fc2, .int .i64 pg.futs, .int .i64 pg.depth, .int .i64 pg.fuel] 24)) (hT.below hb5) (hF.below hb5)
      have HB5 : Hid (Below wr.heap.size wr (w4.alloc (.cells #[.slice (some ⟨g, f, none⟩) 1 fc2, .int .i64 pg.futs, .int .i64 pg.depth, .int .i64 pg.fuel] 24))) := hb5
      clear hPG2 hS4 hk4 hb4 hb5 HB3
      simp only [List.length_cons, List.length_nil]
      go_wp2_with (go_at_call 9; refine haw.mono ?_; rintro e w6 ⟨rfl, hb6⟩)
      go_ret
      exact ⟨rfl, below_then HB5.out hb6⟩
end Go.Proofs.YtdpagipbaddnfaaDoor
