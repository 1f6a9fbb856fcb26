/-
  The law LexWrong: its walk.
-/
import Derived.Test.YtphkplliecfmjaaWrong
namespace Go.Proofs.Ytphkplliecfmjaa
open Go.RowKit

theorem infoByte : (Try.prog.info? 5).map (fun i => (i.zero, i.size, i.bytes)) = some (some (.int .u8 0), 1, 1) := by kernel_rfl
theorem make_bytes (w : World) : (Instr.makeSlice 40 (.int .i64 8193) (.int .i64 8193)).run Try.prog w = .ok (.slice (some ⟨w.heap.size, 0, none⟩) 8193 8193) (w.alloc (.cells (madeCells #[.int .u8 0] 8193) 5)) := by
  obtain ⟨i0, hi, hz0, hz1, hz2⟩ := info_parts infoByte
  have hr := run_make (P := Try.prog) w 40 5 i0 _ Try.underlying40 hi hz0 .i64 .i64 8193 8193 (by omega) (Int.le_refl _) (by rw [hz2]; omega) (by omega)
  rw [hz1] at hr
  exact hr
def zeros : List UInt8 := List.replicate 8193 0
theorem zeros_len : zeros.length = 8193 := List.length_replicate
theorem conv_zeros (w : World) (cap : Nat) : (convert 40 9 (.slice (some ⟨w.heap.size, 0, none⟩) 8193 cap)).run Try.prog (w.alloc (.cells (madeCells #[.int .u8 0] 8193) 5)) = .ok (.string (strB zeros)) (w.alloc (.cells (madeCells #[.int .u8 0] 8193) 5)) := by
  have h := bytes_string (w := w.alloc (.cells (madeCells #[.int .u8 0] 8193) 5)) (cap := cap) (l := zeros) (heap_alloc_new w _) (by
    rw [toList_madeCells_one, zeros_len, List.take_of_length_le (by rw [List.length_replicate]; exact Nat.le_refl _)]
    unfold zeros
    rw [List.map_replicate]
    rfl)
  rw [zeros_len] at h
  exact h
theorem lex_zeros : lexF zeros = ([], 0, 2) := by
  unfold lexF
  rw [if_pos (by rw [zeros_len]; omega)]
theorem conv_one (w : World) (c : UInt8) (z : Int) (hz : z = c.toNat) (cap : Nat) : (convert 40 9 (.slice (some ⟨w.heap.size, 0, none⟩) 1 cap)).run Try.prog (w.alloc (.cells #[.int .u8 z] 5)) = .ok (.string (strB [c])) (w.alloc (.cells #[.int .u8 z] 5)) := by
  subst hz
  exact bytes_string (w := w.alloc (.cells #[.int .u8 (c.toNat : Int)] 5)) (cap := cap) (l := [c]) (heap_alloc_new w _) rfl
/-- the tests of a byte, as they are taken -/
theorem okB_yes {z : Int} (h : okB z = true) : (97 ≤ z ∧ z ≤ 122) ∨ (decide (97 ≤ z) = false ∧ 48 ≤ z ∧ z ≤ 57) ∨ z = 32 ∨ z = 9 ∨ z = 13 ∨ z = 10 ∨ z = 35 ∨ z = 58 ∨ z = 44 := by
  simp [okB] at h ⊢
  omega
theorem okB_no {z : Int} (h : okB z = false) : (z == 32) = false ∧ (z == 9) = false ∧ (z == 13) = false ∧ (z == 10) = false ∧ (z == 35) = false ∧ (z == 58) = false ∧ (z == 44) = false ∧
      ((decide (97 ≤ z) = true ∧ decide (z ≤ 122) = false ∧ decide (48 ≤ z) = true ∧ decide (z ≤ 57) = false) ∨ (decide (97 ≤ z) = false ∧ decide (48 ≤ z) = true ∧ decide (z ≤ 57) = false) ∨ (decide (97 ≤ z) = false ∧ decide (48 ≤ z) = false)) := by
  simp [okB] at h ⊢
  omega
set_option maxHeartbeats 4000000 in
set_option maxRecDepth 4000 in
theorem wrong_walk (a0 a1 : Int) (h0 : 0 ≤ a0) (h1 : a0 ≤ 255) (w : World) : Calls Try.prog 7 #[.int .u8 a0, .int .i64 a1] w fun e w' => e = .returned (.bool true) ∧ Below w.heap.size w w' := by
  obtain ⟨p1, p2⟩ := placeI_bd a1 30 (by omega)
  have hpl := place_any a1 30 w (by omega) (by omega)
  obtain ⟨N, hN⟩ : ∃ N : Nat, placeI a1 30 = N := ⟨(placeI a1 30).toNat, by omega⟩
  rw [hN] at hpl p1 p2
  have HPL : Hid (Calls Try.prog 11 #[.int .i64 a1, .int .i64 30] w fun e w' => e = .returned (.int .i64 (N : Int)) ∧ w' = w) := hpl
  have hc : a0 = (byteOf a0).toNat := (byteOf_nat h0 h1).symm
  generalize byteOf a0 = c at hc
  have HC : Hid (a0 = c.toNat) := hc
  clear hpl hN hc
  go_enter Try.func7, Try.ntmps7
  go_wp2_with fail
  refine HPL.out.mono ?_
  rintro e w1 ⟨rfl, rfl⟩
  clear HPL
  go_wp2_with fail
  go_loopw [6, 7] (fun sv iv wr => ∃ i : Nat, i ≤ N ∧ iv = .int .i64 i ∧ sv = .string (strB (linesA i)) ∧ wr = w1) (fun _ iv _ => N - (intOf iv).toNat)
  case atStart => exact ⟨0, by omega, rfl, rfl, rfl⟩
  case round =>
    obtain ⟨i, hi, rfl, rfl, rfl⟩ := hrel
    have hsz : (strB (linesA i)).size = 4 * i := by rw [strB_size, linesA_length]
    by_cases hlt : i < N
    · have hap : strB (linesA i) ++ ⟨#[97, 32, 49, 10]⟩ = strB (linesA (i + 1)) := by
        rw [linesA_succ, ← strB_append]
        rfl
      go_wp2_with fail
      go_roundw
      case rel => exact ⟨i + 1, by omega, by go_num, rfl, trivial⟩
      case measure => simp [intOf]; omega
    · obtain rfl : i = N := by omega
      have hs1 : (strB [c]).size = 1 := by rw [strB_size]; rfl
      have hs2 : (strB (linesA i ++ [35, 32])).size = 4 * i + 2 := by rw [strB_size, List.length_append, linesA_length]; rfl
      have ha1 := strB_append (linesA i) [c]
      have ha2 : strB (linesA i) ++ ⟨#[35, 32]⟩ = strB (linesA i ++ [35, 32]) := by rw [← strB_append]; rfl
      have ha3 := strB_append (linesA i ++ [35, 32]) [c]
      have hL2 := lexF_comment i c (by omega)
      have hL1 := lexF_one i c (by omega)
      rw [← HC.out] at hL1
      have kc := fun wx => conv_one wx c a0 HC.out 1
      have mk := make_bytes
      have kz := fun wx => conv_zeros wx 8193
      have hz := lex_zeros
      have hzl := zeros_len
      generalize zeros = zz at *
      generalize hl1 : linesA i ++ [c] = l1 at *
      generalize hl2 : linesA i ++ [35, 32] ++ [c] = l2 at *
      generalize linesA i ++ [35, 32] = l3 at *
      generalize linesA i = l0 at *
      have HZ : Hid (lexF zz = ([], 0, 2)) := hz
      have HL2 : Hid ((lexF l2).2.2 = 0) := hL2
      clear hl1 hl2 hz hL2 hzl
      cases hok : okB a0 with
      | true =>
        have hcs := okB_yes hok
        have HL1 : Hid ((lexF l1).2.2 = 0) := hL1.1 hok
        clear hL1 hok HC
        rcases hcs with ⟨x1, x2⟩ | ⟨x1, x2, x3⟩ | rfl | rfl | rfl | rfl | rfl | rfl | rfl
        all_goals
          go_wp2_with fail
          refine (All_l (l := l1) rfl _).mono ?_
          rintro e w2 ⟨ta, tc, he, hS, hb⟩
          rw [HL1.out] at he
          subst he
          have hb2 := below_then (below_alloc (Below.refl _ _) _) hb
          clear hS hb
          go_wp2_with fail
          refine (All_l (l := l2) rfl _).mono ?_
          rintro e w3 ⟨ua, uc, he, hS, hb⟩
          rw [HL2.out] at he
          subst he
          have hb3 := below_then (below_alloc hb2 _) hb
          clear hS hb hb2
          go_wp2_with fail
          refine (All_l (l := zz) rfl _).mono ?_
          rintro e w4 ⟨va, vc, he, hS, hb⟩
          rw [HZ.out] at he
          subst he
          have hb4 := below_then (below_alloc hb3 _) hb
          clear hS hb hb3
          go_wp2_with fail
          refine (awake_any _).mono ?_
          rintro e w5 ⟨rfl, hb⟩
          have hb5 := below_then hb4 hb
          clear hb hb4
          go_wp2_with fail
          go_ret
          exact ⟨rfl, hb5⟩
      | false =>
        obtain ⟨e1, e2, e3, e4, e5, e6, e7, hcs⟩ := okB_no hok
        have HL1 : Hid (lexF l1 = ([], (i : Int) + 1, 3)) := hL1.2 hok
        clear hL1 hok HC
        rcases hcs with ⟨x1, x2, x3, x4⟩ | ⟨x1, x2, x3⟩ | ⟨x1, x2⟩
        all_goals
          go_wp2_with fail
          refine (All_l (l := l1) rfl _).mono ?_
          rintro e w2 ⟨ta, tc, he, hS, hb⟩
          rw [HL1.out] at he
          subst he
          have hb2 := below_then (below_alloc (Below.refl _ _) _) hb
          clear hS hb
          go_wp2_with fail
          refine (All_l (l := l2) rfl _).mono ?_
          rintro e w3 ⟨ua, uc, he, hS, hb⟩
          rw [HL2.out] at he
          subst he
          have hb3 := below_then (below_alloc hb2 _) hb
          clear hS hb hb2
          go_wp2_with fail
          refine (All_l (l := zz) rfl _).mono ?_
          rintro e w4 ⟨va, vc, he, hS, hb⟩
          rw [HZ.out] at he
          subst he
          have hb4 := below_then (below_alloc hb3 _) hb
          clear hS hb hb3
          go_wp2_with fail
          refine (awake_any _).mono ?_
          rintro e w5 ⟨rfl, hb⟩
          have hb5 := below_then hb4 hb
          clear hb hb4
          go_wp2_with fail
          go_ret
          exact ⟨rfl, hb5⟩
end Go.Proofs.Ytphkplliecfmjaa
