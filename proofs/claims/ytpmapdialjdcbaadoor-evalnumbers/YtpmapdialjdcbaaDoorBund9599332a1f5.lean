/-
  Helpers: K6KF.
-/
import Derived.Test.YtpmapdialjdcbaaDoorBunebffe6de244d
namespace Go.Proofs.YtpmapdialjdcbaaDoor.K6
open Go.RowKit

set_option maxHeartbeats 1000000 in
theorem RCheck_any (k : Int) (w : World) : Calls Tryd.prog 89 #[.int .i64 k] w fun e w' => e = .returned (.bool (okK k)) ∧ w' = w := by
  by_cases hr : 1125899906842624 ≤ k ∧ k < 2251799813685248
  · obtain ⟨r1, r2⟩ := hr
    go_enter Tryd.func89, Tryd.ntmps89
    go_wp2_with fail
    go_loopw [3, 4] (fun ev dv wr => ∃ i : Nat, i ≤ 5 ∧ dv = .int .i64 ((i : Int) + 1) ∧ ev = .bool (enB k i) ∧ PreK k i ∧ wr = w) (fun _ dv _ => 6 - (intOf dv).toNat)
    case atStart => exact ⟨0, by omega, rfl, rfl, PreK.zero k, rfl⟩
    case round =>
      obtain ⟨i, hi, rfl, rfl, hP, rfl⟩ := hrel
      by_cases h5 : i < 5
      · go_wp2_with fail
        refine (digit_any k (i + 1) _ (by omega) (by omega) _).mono ?_
        rintro e w1 ⟨rfl, rfl⟩
        have hb := dig_bd k (i + 1)
        by_cases hg : 1000 < dg k (i + 1)
        · have HN : Hid (okK k = false) := decide_eq_false (big_no (by omega) (by omega) hg)
          clear hP
          go_wp2_with fail
          go_ret
          exact ⟨ret_b HN.out.symm, rfl⟩
        · by_cases hz : 0 < dg k (i + 1)
          · have hz2 : (dg k (i + 1) == 0) = false := by simp; omega
            cases he : enB k i
            · have hx := hP.next (by omega) (fun _ => he)
              have HX : Hid (PreK k (i + 1)) := hx.1
              have hE : enB k (i + 1) = false := by rw [hx.2, he, Bool.false_or]; exact decide_eq_false (by omega)
              have HE : Hid (enB k (i + 1) = false) := hE
              clear hP hx hE
              go_wp2_with fail
              go_roundw
              case rel => exact ⟨i + 1, by omega, by go_num, by rw [HE.out], HX.out, trivial⟩
              case measure => simp [intOf]; omega
            · have hei : 1 ≤ i ∧ dg k i = 0 := of_decide_eq_true he
              have HN : Hid (okK k = false) := decide_eq_false (gap_no hei.1 (by omega) hei.2 hz)
              clear hP hei
              go_wp2_with fail
              go_ret
              exact ⟨ret_b HN.out.symm, rfl⟩
          · have hz0 : dg k (i + 1) = 0 := by omega
            have hx := hP.next (by omega) (fun h => by omega)
            have HX : Hid (PreK k (i + 1)) := hx.1
            have hE : enB k (i + 1) = true := by rw [hx.2, decide_eq_true hz0, Bool.or_true]
            have HE : Hid (enB k (i + 1) = true) := hE
            clear hP hx hz hg hb hE
            cases he : enB k i
            · go_wp2_with fail
              go_roundw
              case rel => exact ⟨i + 1, by omega, by go_num, by rw [HE.out], HX.out, trivial⟩
              case measure => simp [intOf]; omega
            · go_wp2_with fail
              go_roundw
              case rel => exact ⟨i + 1, by omega, by go_num, by rw [HE.out], HX.out, trivial⟩
              case measure => simp [intOf]; omega
      · obtain rfl : i = 5 := by omega
        have HY : Hid (okK k = true) := decide_eq_true (hP.done r1 r2)
        clear hP
        go_wp2_with fail
        go_ret
        exact ⟨ret_b HY.out.symm, rfl⟩
  · have HN : Hid (okK k = false) := decide_eq_false fun h => hr ⟨h.1, h.2.1⟩
    by_cases h1 : k < 1125899906842624
    · clear hr
      go_enter Tryd.func89, Tryd.ntmps89
      go_wp2_with fail
      go_ret
      exact ⟨ret_b HN.out.symm, rfl⟩
    · have h2 : 2251799813685248 ≤ k := by omega
      clear hr
      go_enter Tryd.func89, Tryd.ntmps89
      go_wp2_with fail
      go_ret
      exact ⟨ret_b HN.out.symm, rfl⟩
set_option maxHeartbeats 1000000 in
theorem RDepth_any (k : Int) (w : World) : Calls Tryd.prog 78 #[.int .i64 k] w fun e w' => e = .returned (.int .i64 (dpN k)) ∧ w' = w := by
  cases ok : okK k
  · have HD : Hid (dpN k = 0) := dp_no ok
    go_enter Tryd.func78, Tryd.ntmps78
    go_wp2_with fail
    refine (RCheck_any k _).mono ?_
    rintro e w1 ⟨rfl, rfl⟩
    rw [ok]
    clear ok
    go_wp2_with fail
    go_ret
    exact ⟨ret_i64 (by rw [HD.out]; rfl), rfl⟩
  · have hk : isK k := of_decide_eq_true ok
    go_enter Tryd.func78, Tryd.ntmps78
    go_wp2_with fail
    refine (RCheck_any k _).mono ?_
    rintro e w1 ⟨rfl, rfl⟩
    rw [ok]
    clear ok
    go_wp2_with fail
    go_loopw [3] (fun dv wr => ∃ i : Nat, i ≤ 5 ∧ dv = .int .i64 i ∧ (∀ j, 1 ≤ j → j ≤ i → 0 < dg k j) ∧ wr = w1) (fun dv _ => 5 - (intOf dv).toNat)
    case atStart => exact ⟨0, by omega, rfl, fun j h1 h2 => by omega, rfl⟩
    case round =>
      obtain ⟨i, hi, rfl, hD, rfl⟩ := hrel
      by_cases h5 : i < 5
      · have hb := (dig_bd k (i + 1)).1
        by_cases hz : 0 < dg k (i + 1)
        · have HN : Hid (∀ j, 1 ≤ j → j ≤ i + 1 → 0 < dg k j) := fun j h1 h2 => by
            by_cases e : j = i + 1
            · subst e; exact hz
            · exact hD j h1 (by omega)
          clear hD
          go_wp2_with fail
          refine (digit_any k (i + 1) _ (by omega) (by omega) _).mono ?_
          rintro e w2 ⟨rfl, rfl⟩
          go_wp2_with fail
          go_roundw
          case rel => exact ⟨i + 1, by omega, by go_num, HN.out, trivial⟩
          case measure => simp [intOf]; omega
        · have HD : Hid (dpN k = i) := by
            show dpN k = i
            rw [dpN, if_pos hk]
            exact dep_at hk hi hD (by omega)
          clear hD
          go_wp2_with fail
          refine (digit_any k (i + 1) _ (by omega) (by omega) _).mono ?_
          rintro e w2 ⟨rfl, rfl⟩
          go_wp2_with fail
          go_ret
          exact ⟨ret_i64 (by rw [HD.out]), rfl⟩
      · have HD : Hid (dpN k = i) := by
          show dpN k = i
          rw [dpN, if_pos hk]
          exact dep_at hk hi hD (by omega)
        clear hD
        go_wp2_with fail
        go_ret
        exact ⟨ret_i64 (by rw [HD.out]), rfl⟩
theorem RChild_any (k n : Int) (w : World) : Calls Tryd.prog 79 #[.int .i64 k, .int .i64 n] w fun e w' => e = .returned (.tuple #[.int .i64 (chK k n), .bool (chO k n)]) ∧ w' = w := by
  by_cases hno : okK k = false ∨ dpN k = 5 ∨ n < 1 ∨ 1000 < n
  · have HN : Hid ((Ending.returned (.tuple #[.int .i64 0, .bool false]) : Ending) = .returned (.tuple #[.int .i64 (chK k n), .bool (chO k n)])) := ch_no hno
    cases hok : okK k
    · clear hno
      go_enter Tryd.func79, Tryd.ntmps79
      go_wp2_with fail
      refine (RCheck_any k _).mono ?_
      rintro e w1 ⟨rfl, rfl⟩
      rw [hok]
      clear hok
      go_wp2_with fail
      exact bodyPost_ret (v := .tuple #[.int .i64 0, .bool false]) (by simp [results, Tryd.results79, go_sem]) rfl ⟨HN.out, rfl⟩
    · have hno2 : dpN k = 5 ∨ n < 1 ∨ 1000 < n := by
        rcases hno with h | h
        · rw [hok] at h; exact (Bool.false_ne_true h.symm).elim
        · exact h
      have hle := dpN_le k
      clear hno
      go_enter Tryd.func79, Tryd.ntmps79
      go_wp2_with fail
      refine (RCheck_any k _).mono ?_
      rintro e w1 ⟨rfl, rfl⟩
      rw [hok]
      clear hok
      go_wp2_with fail
      refine (RDepth_any k _).mono ?_
      rintro e w2 ⟨rfl, rfl⟩
      generalize dpN k = D at *
      by_cases hD : D = 5
      · subst hD
        clear hno2
        go_wp2_with fail
        exact bodyPost_ret (v := .tuple #[.int .i64 0, .bool false]) (by simp [results, Tryd.results79, go_sem]) rfl ⟨HN.out, rfl⟩
      · have hD2 : D < 5 := by omega
        by_cases hn : n < 1
        · clear hno2
          go_wp2_with fail
          exact bodyPost_ret (v := .tuple #[.int .i64 0, .bool false]) (by simp [results, Tryd.results79, go_sem]) rfl ⟨HN.out, rfl⟩
        · have hn2 : 1000 < n := by omega
          clear hno2
          go_wp2_with fail
          exact bodyPost_ret (v := .tuple #[.int .i64 0, .bool false]) (by simp [results, Tryd.results79, go_sem]) rfl ⟨HN.out, rfl⟩
  · have hok : okK k = true := by
      cases h : okK k
      · exact (hno (.inl h)).elim
      · rfl
    have hle := dpN_le k
    have hd : dpN k < 5 := by omega
    have h1 : 1 ≤ n := by omega
    have h2 : n ≤ 1000 := by omega
    obtain ⟨c1, c2, c3, c4⟩ := ch_yes hok hd h1 h2
    obtain ⟨b1, b2⟩ := ok_bd hok
    have HP : Hid ((Ending.returned (.tuple #[.int .i64 (k + n * wd (dpN k + 1)), .bool true]) : Ending) = .returned (.tuple #[.int .i64 (chK k n), .bool (chO k n)])) := by
      show (Ending.returned (.tuple #[.int .i64 (k + n * wd (dpN k + 1)), .bool true]) : Ending) = .returned (.tuple #[.int .i64 (chK k n), .bool (chO k n)])
      rw [c1, c2]
    clear c1 c2 hno
    go_enter Tryd.func79, Tryd.ntmps79
    go_wp2_with fail
    refine (RCheck_any k _).mono ?_
    rintro e w1 ⟨rfl, rfl⟩
    rw [hok]
    clear hok
    go_wp2_with fail
    refine (RDepth_any k _).mono ?_
    rintro e w2 ⟨rfl, rfl⟩
    have HR : Hid (∀ wx, Calls Tryd.prog 78 #[.int .i64 k] wx fun e w' => e = .returned (.int .i64 (dpN k)) ∧ w' = wx) := fun wx => RDepth_any k wx
    generalize dpN k = D at *
    have hp : (2 : Int) ^ (40 - 10 * (D : Int)).toNat = wd (D + 1) := by
      have := sh_pow (i := D + 1) (by omega)
      rw [show (40 - 10 * (D : Int)) = sh (D + 1) by unfold sh; omega]
      exact this
    have hn := wd_pos (D + 1)
    have hm : 0 ≤ n * wd (D + 1) := Int.mul_nonneg (by omega) (by omega)
    generalize hVd : n * wd (D + 1) = V at *
    have hV : wrap64 V = V := by unfold wrap64; omega
    go_wp2_with fail
    refine (HR.out _).mono ?_
    rintro e w3 ⟨rfl, rfl⟩
    go_wp2_with fail
    exact bodyPost_ret (v := .tuple #[.int .i64 (k + V), .bool true]) (by simp [results, Tryd.results79, go_sem]) rfl ⟨HP.out, rfl⟩
end Go.Proofs.YtpmapdialjdcbaaDoor.K6
