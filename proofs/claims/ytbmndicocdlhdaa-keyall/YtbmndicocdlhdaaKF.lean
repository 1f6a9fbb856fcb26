/-
  What the document's own calls on keys answer: the same; they turn nothing.
-/
import Derived.Test.YtbmndicocdlhdaaKE
namespace Go.Proofs.Ytbmndicocdlhdaa
open Go.RowKit

set_option maxHeartbeats 1000000 in
theorem RCheck_any (k : Int) (w : World) : Calls Try.prog 13 #[.int .i64 k] w fun e w' => e = .returned (.bool (okK k)) ∧ w' = w := by
  by_cases hr : 1125899906842624 ≤ k ∧ k < 2251799813685248
  · obtain ⟨r1, r2⟩ := hr
    go_enter Try.func13, Try.ntmps13
    go_wp2_with fail
    go_loopw [3, 4] (fun ev dv wr => ∃ i : Nat, i ≤ 5 ∧ dv = .int .i64 ((i : Int) + 1) ∧ ev = .bool (enB k i) ∧ PreK k i ∧ wr = w) (fun _ dv _ => 6 - (intOf dv).toNat)
    case atStart => exact ⟨0, by omega, rfl, rfl, PreK.zero k, rfl⟩
    case round =>
      obtain ⟨i, hi, rfl, rfl, hP, rfl⟩ := hrel
      by_cases h5 : i < 5
      · go_wp2_with fail
        refine (digit_any k (i + 1) _ (by omega) (by omega) _).mono ?_
        rintro e w1 ⟨rfl, rfl⟩
        have hb := dig_bd k (i + 1)
        by_cases hg : 1000 < dg k (i + 1)
        · have HN : Hid (okK k = false) := decide_eq_false (big_no (by omega) (by omega) hg)
          clear hP
          go_wp2_with fail
          go_ret
          exact ⟨ret_b HN.out.symm, rfl⟩
        · by_cases hz : 0 < dg k (i + 1)
          · have hz2 : (dg k (i + 1) == 0) = false := by simp; omega
            cases he : enB k i
            · have hx := hP.next (by omega) (fun _ => he)
              have HX : Hid (PreK k (i + 1)) := hx.1
              have hE : enB k (i + 1) = false := by rw [hx.2, he, Bool.false_or]; exact decide_eq_false (by omega)
              have HE : Hid (enB k (i + 1) = false) := hE
              clear hP hx hE
              go_wp2_with fail
              go_roundw
              case rel => exact ⟨i + 1, by omega, by go_num, by rw [HE.out], HX.out, trivial⟩
              case measure => simp [intOf]; omega
            · have hei : 1 ≤ i ∧ dg k i = 0 := of_decide_eq_true he
              have HN : Hid (okK k = false) := decide_eq_false (gap_no hei.1 (by omega) hei.2 hz)
              clear hP hei
              go_wp2_with fail
              go_ret
              exact ⟨ret_b HN.out.symm, rfl⟩
          · have hz0 : dg k (i + 1) = 0 := by omega
            have hx := hP.next (by omega) (fun h => by omega)
            have HX : Hid (PreK k (i + 1)) := hx.1
            have hE : enB k (i + 1) = true := by rw [hx.2, decide_eq_true hz0, Bool.or_true]
            have HE : Hid (enB k (i + 1) = true) := hE
            clear hP hx hz hg hb hE
            cases he : enB k i
            · go_wp2_with fail
              go_roundw
              case rel => exact ⟨i + 1, by omega, by go_num, by rw [HE.out], HX.out, trivial⟩
              case measure => simp [intOf]; omega
            · go_wp2_with fail
              go_roundw
              case rel => exact ⟨i + 1, by omega, by go_num, by rw [HE.out], HX.out, trivial⟩
              case measure => simp [intOf]; omega
      · obtain rfl : i = 5 := by omega
        have HY : Hid (okK k = true) := decide_eq_true (hP.done r1 r2)
        clear hP
        go_wp2_with fail
        go_ret
        exact ⟨ret_b HY.out.symm, rfl⟩
  · have HN : Hid (okK k = false) := decide_eq_false fun h => hr ⟨h.1, h.2.1⟩
    by_cases h1 : k < 1125899906842624
    · clear hr
      go_enter Try.func13, Try.ntmps13
      go_wp2_with fail
      go_ret
      exact ⟨ret_b HN.out.symm, rfl⟩
    · have h2 : 2251799813685248 ≤ k := by omega
      clear hr
      go_enter Try.func13, Try.ntmps13
      go_wp2_with fail
      go_ret
      exact ⟨ret_b HN.out.symm, rfl⟩
set_option maxHeartbeats 1000000 in
theorem RDepth_any (k : Int) (w : World) : Calls Try.prog 15 #[.int .i64 k] w fun e w' => e = .returned (.int .i64 (dpN k)) ∧ w' = w := by
  cases ok : okK k
  · have HD : Hid (dpN k = 0) := dp_no ok
    go_enter Try.func15, Try.ntmps15
    go_wp2_with fail
    refine (RCheck_any k _).mono ?_
    rintro e w1 ⟨rfl, rfl⟩
    rw [ok]
    clear ok
    go_wp2_with fail
    go_ret
    exact ⟨ret_i64 (by rw [HD.out]; rfl), rfl⟩
  · have hk : isK k := of_decide_eq_true ok
    go_enter Try.func15, Try.ntmps15
    go_wp2_with fail
    refine (RCheck_any k _).mono ?_
    rintro e w1 ⟨rfl, rfl⟩
    rw [ok]
    clear ok
    go_wp2_with fail
    go_loopw [3] (fun dv wr => ∃ i : Nat, i ≤ 5 ∧ dv = .int .i64 i ∧ (∀ j, 1 ≤ j → j ≤ i → 0 < dg k j) ∧ wr = w1) (fun dv _ => 5 - (intOf dv).toNat)
    case atStart => exact ⟨0, by omega, rfl, fun j h1 h2 => by omega, rfl⟩
    case round =>
      obtain ⟨i, hi, rfl, hD, rfl⟩ := hrel
      by_cases h5 : i < 5
      · have hb := (dig_bd k (i + 1)).1
        by_cases hz : 0 < dg k (i + 1)
        · have HN : Hid (∀ j, 1 ≤ j → j ≤ i + 1 → 0 < dg k j) := fun j h1 h2 => by
            by_cases e : j = i + 1
            · subst e; exact hz
            · exact hD j h1 (by omega)
          clear hD
          go_wp2_with fail
          refine (digit_any k (i + 1) _ (by omega) (by omega) _).mono ?_
          rintro e w2 ⟨rfl, rfl⟩
          go_wp2_with fail
          go_roundw
          case rel => exact ⟨i + 1, by omega, by go_num, HN.out, trivial⟩
          case measure => simp [intOf]; omega
        · have HD : Hid (dpN k = i) := by
            show dpN k = i
            rw [dpN, if_pos hk]
            exact dep_at hk hi hD (by omega)
          clear hD
          go_wp2_with fail
          refine (digit_any k (i + 1) _ (by omega) (by omega) _).mono ?_
          rintro e w2 ⟨rfl, rfl⟩
          go_wp2_with fail
          go_ret
          exact ⟨ret_i64 (by rw [HD.out]), rfl⟩
      · have HD : Hid (dpN k = i) := by
          show dpN k = i
          rw [dpN, if_pos hk]
          exact dep_at hk hi hD (by omega)
        clear hD
        go_wp2_with fail
        go_ret
        exact ⟨ret_i64 (by rw [HD.out]), rfl⟩
theorem RChild_any (k n : Int) (w : World) : Calls Try.prog 9 #[.int .i64 k, .int .i64 n] w fun e w' => e = .returned (.tuple #[.int .i64 (chK k n), .bool (chO k n)]) ∧ w' = w := by
  by_cases hno : okK k = false ∨ dpN k = 5 ∨ n < 1 ∨ 1000 < n
  · have HN : Hid ((Ending.returned (.tuple #[.int .i64 0, .bool false]) : Ending) = .returned (.tuple #[.int .i64 (chK k n), .bool (chO k n)])) := ch_no hno
    cases hok : okK k
    · clear hno
      go_enter Try.func9, Try.ntmps9
      go_wp2_with fail
      refine (RCheck_any k _).mono ?_
      rintro e w1 ⟨rfl, rfl⟩
      rw [hok]
      clear hok
      go_wp2_with fail
      exact bodyPost_ret (v := .tuple #[.int .i64 0, .bool false]) (by simp [results, Try.results9, go_sem]) rfl ⟨HN.out, rfl⟩
    · have hno2 : dpN k = 5 ∨ n < 1 ∨ 1000 < n := by
        rcases hno with h | h
        · rw [hok] at h; exact (Bool.false_ne_true h.symm).elim
        · exact h
      have hle := dpN_le k
      clear hno
      go_enter Try.func9, Try.ntmps9
      go_wp2_with fail
      refine (RCheck_any k _).mono ?_
      rintro e w1 ⟨rfl, rfl⟩
      rw [hok]
      clear hok
      go_wp2_with fail
      refine (RDepth_any k _).mono ?_
      rintro e w2 ⟨rfl, rfl⟩
      generalize dpN k = D at *
      by_cases hD : D = 5
      · subst hD
        clear hno2
        go_wp2_with fail
        exact bodyPost_ret (v := .tuple #[.int .i64 0, .bool false]) (by simp [results, Try.results9, go_sem]) rfl ⟨HN.out, rfl⟩
      · have hD2 : D < 5 := by omega
        by_cases hn : n < 1
        · clear hno2
          go_wp2_with fail
          exact bodyPost_ret (v := .tuple #[.int .i64 0, .bool false]) (by simp [results, Try.results9, go_sem]) rfl ⟨HN.out, rfl⟩
        · have hn2 : 1000 < n := by omega
          clear hno2
          go_wp2_with fail
          exact bodyPost_ret (v := .tuple #[.int .i64 0, .bool false]) (by simp [results, Try.results9, go_sem]) rfl ⟨HN.out, rfl⟩
  · have hok : okK k = true := by
      cases h : okK k
      · exact (hno (.inl h)).elim
      · rfl
    have hle := dpN_le k
    have hd : dpN k < 5 := by omega
    have h1 : 1 ≤ n := by omega
    have h2 : n ≤ 1000 := by omega
    obtain ⟨c1, c2, c3, c4⟩ := ch_yes hok hd h1 h2
    obtain ⟨b1, b2⟩ := ok_bd hok
    have HP : Hid ((Ending.returned (.tuple #[.int .i64 (k + n * wd (dpN k + 1)), .bool true]) : Ending) = .returned (.tuple #[.int .i64 (chK k n), .bool (chO k n)])) := by
      show (Ending.returned (.tuple #[.int .i64 (k + n * wd (dpN k + 1)), .bool true]) : Ending) = .returned (.tuple #[.int .i64 (chK k n), .bool (chO k n)])
      rw [c1, c2]
    clear c1 c2 hno
    go_enter Try.func9, Try.ntmps9
    go_wp2_with fail
    refine (RCheck_any k _).mono ?_
    rintro e w1 ⟨rfl, rfl⟩
    rw [hok]
    clear hok
    go_wp2_with fail
    refine (RDepth_any k _).mono ?_
    rintro e w2 ⟨rfl, rfl⟩
    have HR : Hid (∀ wx, Calls Try.prog 15 #[.int .i64 k] wx fun e w' => e = .returned (.int .i64 (dpN k)) ∧ w' = wx) := fun wx => RDepth_any k wx
    generalize dpN k = D at *
    have hp : (2 : Int) ^ (40 - 10 * (D : Int)).toNat = wd (D + 1) := by
      have := sh_pow (i := D + 1) (by omega)
      rw [show (40 - 10 * (D : Int)) = sh (D + 1) by unfold sh; omega]
      exact this
    have hn := wd_pos (D + 1)
    have hm : 0 ≤ n * wd (D + 1) := Int.mul_nonneg (by omega) (by omega)
    generalize hVd : n * wd (D + 1) = V at *
    have hV : wrap64 V = V := by unfold wrap64; omega
    go_wp2_with fail
    refine (HR.out _).mono ?_
    rintro e w3 ⟨rfl, rfl⟩
    go_wp2_with fail
    exact bodyPost_ret (v := .tuple #[.int .i64 (k + V), .bool true]) (by simp [results, Try.results9, go_sem]) rfl ⟨HP.out, rfl⟩
theorem RParent_any (k : Int) (w : World) : Calls Try.prog 11 #[.int .i64 k] w fun e w' => e = .returned (.tuple #[.int .i64 (paK k), .int .i64 (paN k), .bool (paO k)]) ∧ w' = w := by
  by_cases hd : dpN k = 0
  · obtain ⟨h1, h2, h3⟩ := pa_not hd
    have HN : Hid ((Ending.returned (.tuple #[.int .i64 0, .int .i64 0, .bool false]) : Ending) = .returned (.tuple #[.int .i64 (paK k), .int .i64 (paN k), .bool (paO k)])) := by
      show (Ending.returned (.tuple #[.int .i64 0, .int .i64 0, .bool false]) : Ending) = .returned (.tuple #[.int .i64 (paK k), .int .i64 (paN k), .bool (paO k)])
      rw [h1, h2, h3]
    clear h1 h2 h3
    go_enter Try.func11, Try.ntmps11
    go_wp2_with fail
    refine (RDepth_any k _).mono ?_
    rintro e w1 ⟨rfl, rfl⟩
    rw [hd]
    clear hd
    go_wp2_with fail
    exact bodyPost_ret (v := .tuple #[.int .i64 0, .int .i64 0, .bool false]) (by simp [results, Try.results11, go_sem]) rfl ⟨HN.out, rfl⟩
  · have hok := dp_bad (k := k) (by omega)
    have hle := dpN_le k
    obtain ⟨b1, b2⟩ := ok_bd hok
    obtain ⟨c1, -, c3, c4, c5, c6, c7⟩ := pa_yes hok (by omega)
    have HP : Hid ((Ending.returned (.tuple #[.int .i64 (k - dg k (dpN k) * wd (dpN k)), .int .i64 (dg k (dpN k)), .bool true]) : Ending) = .returned (.tuple #[.int .i64 (paK k), .int .i64 (paN k), .bool (paO k)])) := by
      show (Ending.returned (.tuple #[.int .i64 (k - dg k (dpN k) * wd (dpN k)), .int .i64 (dg k (dpN k)), .bool true]) : Ending) = .returned (.tuple #[.int .i64 (paK k), .int .i64 (paN k), .bool (paO k)])
      rw [c1, c4, c3]
    rw [c4] at c5
    clear c1 c3 c4 hok
    go_enter Try.func11, Try.ntmps11
    go_wp2_with fail
    refine (RDepth_any k _).mono ?_
    rintro e w1 ⟨rfl, rfl⟩
    generalize dpN k = D at *
    have hD2 : ((D : Int) == 0) = false := by simp; omega
    have hp : (2 : Int) ^ (50 - 10 * (D : Int)).toNat = wd D := by
      have := sh_pow (i := D) (by omega)
      rw [show (50 - 10 * (D : Int)) = sh D by unfold sh; omega]
      exact this
    have hn := wd_pos D
    have hm : 0 ≤ dg k D * wd D := Int.mul_nonneg (by omega) (by omega)
    generalize hVd : dg k D * wd D = V at *
    have hV : wrap64 V = V := by unfold wrap64; omega
    go_wp2_with fail
    refine (digit_any k D _ rfl (by omega) _).mono ?_
    rintro e w2 ⟨rfl, rfl⟩
    go_wp2_with fail
    exact bodyPost_ret (v := .tuple #[.int .i64 (k - V), .int .i64 (dg k D), .bool true]) (by simp [results, Try.results11, go_sem]) rfl ⟨HP.out, rfl⟩
theorem RUnder_any (a b : Int) (w : World) : Calls Try.prog 17 #[.int .i64 a, .int .i64 b] w fun e w' => e = .returned (.bool (unB a b)) ∧ w' = w := by
  go_enter Try.func17, Try.ntmps17
  go_wp2_with fail
  go_loopw [0] (fun av wr => ∃ c : Int, av = .int .i64 c ∧ unB a b = unB c b ∧ wr = w) (fun av _ => dpN (intOf av))
  case atStart => exact ⟨a, rfl, rfl, rfl⟩
  case round =>
    obtain ⟨c, rfl, hu, rfl⟩ := hrel
    have HU : Hid (unB a b = unB c b) := hu
    clear hu
    go_wp2_with fail
    refine (RParent_any c _).mono ?_
    rintro e w1 ⟨rfl, rfl⟩
    cases ho : paO c
    · have HN : Hid (unB c b = false) := un_top ho
      go_wp2_with fail
      go_ret
      exact ⟨ret_b (by rw [HU.out, HN.out]), rfl⟩
    · have hs := un_step (b := b) ho
      have hd := (pa_dep ho).1
      by_cases he : paK c = b
      · have HN : Hid (unB c b = true) := hs.2 (.inl he)
        have he2 : (paK c == b) = true := by simp [he]
        clear hs he
        go_wp2_with fail
        go_ret
        exact ⟨ret_b (by rw [HU.out, HN.out]), rfl⟩
      · have HN : Hid (unB c b = unB (paK c) b) := by
          show unB c b = unB (paK c) b
          rw [Bool.eq_iff_iff, hs]
          exact ⟨fun h => h.resolve_left he, .inr⟩
        have he2 : (paK c == b) = false := by simp [he]
        have HD : Hid (dpN (paK c) + 1 = dpN c) := hd
        clear hs he hd
        go_wp2_with fail
        go_roundw
        case rel => exact ⟨paK c, rfl, by rw [HU.out, HN.out], trivial⟩
        case measure => have := HD.out; simp [intOf]; omega
theorem RAhead_any (a b : Int) (w : World) : Calls Try.prog 19 #[.int .i64 a, .int .i64 b] w fun e w' => e = .returned (.bool (ahB a b)) ∧ w' = w := by
  cases oa : okK a
  · have HU : Hid (ahB a b = false) := ah_bad1 oa b
    go_enter Try.func19, Try.ntmps19
    go_wp2_with fail
    refine (RCheck_any a _).mono ?_
    rintro e w1 ⟨rfl, rfl⟩
    rw [oa]
    clear oa
    go_wp2_with fail
    go_ret
    exact ⟨ret_b HU.out.symm, rfl⟩
  · cases ob : okK b
    · have HU : Hid (ahB a b = false) := ah_bad2 ob a
      go_enter Try.func19, Try.ntmps19
      go_wp2_with fail
      refine (RCheck_any a _).mono ?_
      rintro e w1 ⟨rfl, rfl⟩
      rw [oa]
      clear oa
      go_wp2_with fail
      refine (RCheck_any b _).mono ?_
      rintro e w2 ⟨rfl, rfl⟩
      rw [ob]
      clear ob
      go_wp2_with fail
      go_ret
      exact ⟨ret_b HU.out.symm, rfl⟩
    · by_cases hab : a = b
      · subst hab
        have HU : Hid (ahB a a = false) := ah_same a
        go_enter Try.func19, Try.ntmps19
        go_wp2_with fail
        refine (RCheck_any a _).mono ?_
        rintro e w1 ⟨rfl, rfl⟩
        rw [oa]
        go_wp2_with fail
        refine (RCheck_any a _).mono ?_
        rintro e w2 ⟨rfl, rfl⟩
        rw [oa]
        clear oa
        go_wp2_with fail
        go_ret
        exact ⟨ret_b HU.out.symm, rfl⟩
      · have hab2 : (a == b) = false := by simp [hab]
        have HU : Hid (ahB a b = (unB a b || (!unB b a && decide (a < b)))) := ah_yes oa ob
        go_enter Try.func19, Try.ntmps19
        go_wp2_with fail
        refine (RCheck_any a _).mono ?_
        rintro e w1 ⟨rfl, rfl⟩
        rw [oa]
        clear oa
        go_wp2_with fail
        refine (RCheck_any b _).mono ?_
        rintro e w2 ⟨rfl, rfl⟩
        rw [ob]
        clear ob
        go_wp2_with fail
        refine (RUnder_any a b _).mono ?_
        rintro e w3 ⟨rfl, rfl⟩
        cases u1 : unB a b
        · rw [u1] at HU
          clear u1
          go_wp2_with fail
          refine (RUnder_any b a _).mono ?_
          rintro e w4 ⟨rfl, rfl⟩
          cases u2 : unB b a
          · rw [u2] at HU
            clear u2
            go_wp2_with fail
            go_ret
            exact ⟨ret_b (by rw [HU.out]; simp), rfl⟩
          · rw [u2] at HU
            clear u2
            go_wp2_with fail
            go_ret
            exact ⟨ret_b (by rw [HU.out]; simp), rfl⟩
        · rw [u1] at HU
          clear u1
          go_wp2_with fail
          go_ret
          exact ⟨ret_b (by rw [HU.out]; simp), rfl⟩
end Go.Proofs.Ytbmndicocdlhdaa
