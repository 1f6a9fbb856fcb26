/-
  What package key's exported calls answer: each returns, and turns nothing that was in memory.
-/
import Derived.Test.YtbmndicocdlhdaaKC
import Derived.Test.YtbmndicocdlhdaaKD
namespace Go.Proofs.Ytbmndicocdlhdaa
open Go.RowKit

theorem inI_ok {k : Int} (h : okK k = true) : inI k := by
  have := ok_bd h
  unfold inI
  omega
theorem Check_any (k : Int) (hk : inI k) (w : World) : Calls Try.prog 12 #[.int .i64 k] w fun e w' => e = .returned (.bool (okK k)) ∧ Below w.heap.size w w' := by
  go_enter Try.func12, Try.ntmps12
  go_wp2_with fail
  refine (measure_any k hk _).mono ?_
  rintro e w1 ⟨rfl, hb⟩
  go_wp2_with fail
  go_ret
  exact ⟨rfl, hb⟩
theorem Depth_any (k : Int) (hk : inI k) (w : World) : Calls Try.prog 14 #[.int .i64 k] w fun e w' => e = .returned (.int .i64 (dpN k)) ∧ Below w.heap.size w w' := by
  go_enter Try.func14, Try.ntmps14
  go_wp2_with fail
  refine (measure_any k hk _).mono ?_
  rintro e w1 ⟨rfl, hb⟩
  go_wp2_with fail
  go_ret
  exact ⟨rfl, hb⟩
/-- what Child leaves -/
def ChPost (k n : Int) (w : World) (e : Ending) (w' : World) : Prop := e = .returned (.tuple #[.int .i64 (chK k n), .bool (chO k n)]) ∧ Below w.heap.size w w'
theorem ch_no {k n : Int} (h : okK k = false ∨ dpN k = 5 ∨ n < 1 ∨ 1000 < n) : (Ending.returned (.tuple #[.int .i64 0, .bool false]) : Ending) = .returned (.tuple #[.int .i64 (chK k n), .bool (chO k n)]) := by
  obtain ⟨h1, h2⟩ := ch_not h
  rw [h1, h2]
theorem Child_any (k n : Int) (hk : inI k) (w : World) : Calls Try.prog 8 #[.int .i64 k, .int .i64 n] w (ChPost k n w) := by
  by_cases hno : okK k = false ∨ dpN k = 5 ∨ n < 1 ∨ 1000 < n
  · have HN : Hid ((Ending.returned (.tuple #[.int .i64 0, .bool false]) : Ending) = .returned (.tuple #[.int .i64 (chK k n), .bool (chO k n)])) := ch_no hno
    cases hok : okK k
    · clear hno
      go_enter Try.func8, Try.ntmps8
      go_wp2_with fail
      refine (measure_any k hk _).mono ?_
      rintro e w1 ⟨rfl, hb⟩
      rw [hok]
      clear hok
      go_wp2_with fail
      exact bodyPost_ret (v := .tuple #[.int .i64 0, .bool false]) (by simp [results, Try.results8, go_sem]) rfl ⟨HN.out, hb⟩
    · have hno2 : dpN k = 5 ∨ n < 1 ∨ 1000 < n := by
        rcases hno with h | h
        · rw [hok] at h; exact (Bool.false_ne_true h.symm).elim
        · exact h
      clear hno
      go_enter Try.func8, Try.ntmps8
      go_wp2_with fail
      refine (measure_any k hk _).mono ?_
      rintro e w1 ⟨rfl, hb⟩
      rw [hok]
      clear hok
      generalize dpN k = D at *
      by_cases hD : D = 5
      · subst hD
        clear hno2
        go_wp2_with fail
        exact bodyPost_ret (v := .tuple #[.int .i64 0, .bool false]) (by simp [results, Try.results8, go_sem]) rfl ⟨HN.out, hb⟩
      · have hD2 : ((D : Int) == 5) = false := by simp; omega
        by_cases hn : n < 1
        · clear hno2
          go_wp2_with fail
          exact bodyPost_ret (v := .tuple #[.int .i64 0, .bool false]) (by simp [results, Try.results8, go_sem]) rfl ⟨HN.out, hb⟩
        · have hn2 : 1000 < n := by omega
          clear hno2
          go_wp2_with fail
          exact bodyPost_ret (v := .tuple #[.int .i64 0, .bool false]) (by simp [results, Try.results8, go_sem]) rfl ⟨HN.out, hb⟩
  · have hok : okK k = true := by
      cases h : okK k
      · exact (hno (.inl h)).elim
      · rfl
    have hle := dpN_le k
    have hd : dpN k < 5 := by omega
    have h1 : 1 ≤ n := by omega
    have h2 : n ≤ 1000 := by omega
    obtain ⟨c1, c2, c3, c4⟩ := ch_yes hok hd h1 h2
    obtain ⟨b1, b2⟩ := ok_bd hok
    have HP : Hid (∀ w', Below w.heap.size w w' → ChPost k n w (.returned (.tuple #[.int .i64 (k + n * wd (dpN k + 1)), .bool true])) w') := fun w' h => ⟨by rw [c1, c2], h⟩
    clear c1 c2 hno
    go_enter Try.func8, Try.ntmps8
    go_wp2_with fail
    refine (measure_any k hk _).mono ?_
    rintro e w1 ⟨rfl, hb⟩
    rw [hok]
    clear hok hk
    generalize dpN k = D at *
    have hD2 : ((D : Int) == 5) = false := by simp; omega
    obtain ⟨s1, s2⟩ := sh_bd (i := D + 1) (by omega)
    have hp := sh_pow (i := D + 1) (by omega)
    have hn := wd_pos (D + 1)
    have hm : 0 ≤ n * wd (D + 1) := Int.mul_nonneg (by omega) (by omega)
    generalize hVd : n * wd (D + 1) = V at *
    have hV : wrap64 V = V := by unfold wrap64; omega
    go_wp2_with fail
    refine (shift_any (D + 1) _ (by omega) (by omega) _).mono ?_
    rintro e w2 ⟨rfl, rfl⟩
    go_wp2_with fail
    exact bodyPost_ret (v := .tuple #[.int .i64 (k + V), .bool true]) (by simp [results, Try.results8, go_sem]) rfl (HP.out _ hb)
/-- what Parent leaves -/
def PaPost (k : Int) (w : World) (e : Ending) (w' : World) : Prop := e = .returned (.tuple #[.int .i64 (paK k), .int .i64 (paN k), .bool (paO k)]) ∧ Below w.heap.size w w'
theorem PaPost.none {k : Int} (h : dpN k = 0) {w w' : World} (hb : Below w.heap.size w w') : PaPost k w (.returned (.tuple #[.int .i64 0, .int .i64 0, .bool false])) w' := by
  obtain ⟨h1, h2, h3⟩ := pa_not h
  exact ⟨by rw [h1, h2, h3], hb⟩
theorem Parent_any (k : Int) (hk : inI k) (w : World) : Calls Try.prog 10 #[.int .i64 k] w (PaPost k w) := by
  by_cases hd : dpN k = 0
  · have HN : Hid (∀ w', Below w.heap.size w w' → PaPost k w (.returned (.tuple #[.int .i64 0, .int .i64 0, .bool false])) w') := fun w' => PaPost.none hd
    cases hok : okK k
    · go_enter Try.func10, Try.ntmps10
      go_wp2_with fail
      refine (measure_any k hk _).mono ?_
      rintro e w1 ⟨rfl, hb⟩
      rw [hok, hd]
      clear hok hd
      go_wp2_with fail
      exact bodyPost_ret (v := .tuple #[.int .i64 0, .int .i64 0, .bool false]) (by simp [results, Try.results10, go_sem]) rfl (HN.out _ hb)
    · go_enter Try.func10, Try.ntmps10
      go_wp2_with fail
      refine (measure_any k hk _).mono ?_
      rintro e w1 ⟨rfl, hb⟩
      rw [hok, hd]
      clear hok hd
      go_wp2_with fail
      exact bodyPost_ret (v := .tuple #[.int .i64 0, .int .i64 0, .bool false]) (by simp [results, Try.results10, go_sem]) rfl (HN.out _ hb)
  · have hok := dp_bad (k := k) (by omega)
    have hle := dpN_le k
    obtain ⟨c1, c2, c3, -⟩ := pa_yes hok (by omega)
    have HP : Hid (∀ w', Below w.heap.size w w' → PaPost k w (.returned (.tuple #[.int .i64 (k / wd (dpN k - 1) * wd (dpN k - 1)), .int .i64 (dg k (dpN k)), .bool true])) w') := fun w' h => ⟨by rw [c1, c2, c3], h⟩
    clear c1 c2 c3
    go_enter Try.func10, Try.ntmps10
    go_wp2_with fail
    refine (measure_any k hk _).mono ?_
    rintro e w1 ⟨rfl, hb⟩
    rw [hok]
    clear hok
    generalize dpN k = D at *
    have hD2 : ((D : Int) == 0) = false := by simp; omega
    go_wp2_with fail
    refine (upTo_any k hk (D - 1) _ (by omega) (by omega) _).mono ?_
    rintro e w2 ⟨rfl, m, rfl⟩
    replace hb := below_drewN hb m
    generalize w1.drewN m = W2 at *
    have hbx := below_then hb (below_alloc (Below.refl W2.heap.size W2) (.cells #[.int .i64 k] 3))
    have hcx : (W2.alloc (.cells #[.int .i64 k] 3)).cell? ⟨W2.heap.size, 0, none⟩ = some (.int .i64 k) := by simp
    go_wp2_with fail
    refine (forks_any k _).mono ?_
    rintro e w3 ⟨rfl, hw3⟩
    rw [← hw3] at hbx hcx
    clear hw3
    go_wp2_with fail
    refine (fork_any k _ D _ rfl hle _ hcx).mono ?_
    rintro e w4 ⟨rfl, m4, rfl⟩
    replace hbx := below_drewN hbx m4
    go_wp2_with fail
    exact bodyPost_ret (v := .tuple #[.int .i64 (k / wd (D - 1) * wd (D - 1)), .int .i64 (dg k D), .bool true]) (by simp [results, Try.results10, go_sem]) rfl (HP.out _ hbx)
theorem ret_b {a b : Bool} (h : a = b) : Ending.returned (.bool a) = .returned (.bool b) := by rw [h]
theorem Under_any (a b : Int) (ha : inI a) (hb : inI b) (w : World) : Calls Try.prog 16 #[.int .i64 a, .int .i64 b] w fun e w' => e = .returned (.bool (unB a b)) ∧ Below w.heap.size w w' := by
  cases oa : okK a
  · have HU : Hid (unB a b = false) := un_bad1 oa b
    go_enter Try.func16, Try.ntmps16
    go_wp2_with fail
    refine (measure_any a ha _).mono ?_
    rintro e w1 ⟨rfl, hb1⟩
    go_wp2_with fail
    refine (measure_any b hb _).mono ?_
    rintro e w2 ⟨rfl, hb2⟩
    replace hb2 := below_then hb1 hb2
    clear oa
    go_wp2_with fail
    go_ret
    exact ⟨ret_b HU.out.symm, hb2⟩
  · cases ob : okK b
    · have HU : Hid (unB a b = false) := un_bad2 ob a
      go_enter Try.func16, Try.ntmps16
      go_wp2_with fail
      refine (measure_any a ha _).mono ?_
      rintro e w1 ⟨rfl, hb1⟩
      go_wp2_with fail
      refine (measure_any b hb _).mono ?_
      rintro e w2 ⟨rfl, hb2⟩
      replace hb2 := below_then hb1 hb2
      rw [ob]
      clear oa ob
      go_wp2_with fail
      go_ret
      exact ⟨ret_b HU.out.symm, hb2⟩
    · have HU : Hid (unB a b = decide (dpN b < dpN a ∧ a / wd (dpN b) * wd (dpN b) = b)) := un_yes oa ob
      have hle := dpN_le b
      go_enter Try.func16, Try.ntmps16
      go_wp2_with fail
      refine (measure_any a ha _).mono ?_
      rintro e w1 ⟨rfl, hb1⟩
      go_wp2_with fail
      refine (measure_any b hb _).mono ?_
      rintro e w2 ⟨rfl, hb2⟩
      replace hb2 := below_then hb1 hb2
      rw [ob]
      clear oa ob
      generalize dpN a = Da at *
      generalize dpN b = Db at *
      by_cases hd : Db < Da
      · go_wp2_with fail
        refine (upTo_any a ha Db _ rfl hle _).mono ?_
        rintro e w3 ⟨rfl, m, rfl⟩
        replace hb2 := below_drewN hb2 m
        go_wp2_with fail
        go_ret
        exact ⟨ret_b (by rw [HU.out]; simp only [hd, true_and]; rfl), hb2⟩
      · go_wp2_with fail
        go_ret
        exact ⟨ret_b (by rw [HU.out]; simp [hd]), hb2⟩
set_option maxHeartbeats 1000000 in
theorem Ahead_any (a b : Int) (ha : inI a) (hb : inI b) (w : World) : Calls Try.prog 18 #[.int .i64 a, .int .i64 b] w fun e w' => e = .returned (.bool (ahB a b)) ∧ Below w.heap.size w w' := by
  cases oa : okK a
  · have HU : Hid (ahB a b = false) := ah_bad1 oa b
    go_enter Try.func18, Try.ntmps18
    go_wp2_with fail
    refine (Check_any a ha _).mono ?_
    rintro e w1 ⟨rfl, hb1⟩
    rw [oa]
    clear oa
    go_wp2_with fail
    go_ret
    exact ⟨ret_b HU.out.symm, hb1⟩
  · cases ob : okK b
    · have HU : Hid (ahB a b = false) := ah_bad2 ob a
      go_enter Try.func18, Try.ntmps18
      go_wp2_with fail
      refine (Check_any a ha _).mono ?_
      rintro e w1 ⟨rfl, hb1⟩
      rw [oa]
      clear oa
      go_wp2_with fail
      refine (Check_any b hb _).mono ?_
      rintro e w2 ⟨rfl, hb2⟩
      replace hb2 := below_then hb1 hb2
      rw [ob]
      clear ob
      go_wp2_with fail
      go_ret
      exact ⟨ret_b HU.out.symm, hb2⟩
    · have HU : Hid (ahB a b = (unB a b || (!unB b a && decide (a < b)))) := ah_yes oa ob
      go_enter Try.func18, Try.ntmps18
      go_wp2_with fail
      refine (Check_any a ha _).mono ?_
      rintro e w1 ⟨rfl, hb1⟩
      rw [oa]
      clear oa
      go_wp2_with fail
      refine (Check_any b hb _).mono ?_
      rintro e w2 ⟨rfl, hb2⟩
      replace hb2 := below_then hb1 hb2
      rw [ob]
      clear ob
      go_wp2_with fail
      refine (Under_any a b ha hb _).mono ?_
      rintro e w3 ⟨rfl, hb3⟩
      replace hb3 := below_then hb2 hb3
      cases u1 : unB a b
      · rw [u1] at HU
        clear u1
        go_wp2_with fail
        refine (Under_any b a hb ha _).mono ?_
        rintro e w4 ⟨rfl, hb4⟩
        replace hb4 := below_then hb3 hb4
        cases u2 : unB b a
        · rw [u2] at HU
          clear u2
          go_wp2_with fail
          go_ret
          exact ⟨ret_b (by rw [HU.out]; simp), hb4⟩
        · rw [u2] at HU
          clear u2
          go_wp2_with fail
          go_ret
          exact ⟨ret_b (by rw [HU.out]; simp), hb4⟩
      · rw [u1] at HU
        clear u1
        go_wp2_with fail
        go_ret
        exact ⟨ret_b (by rw [HU.out]; simp), hb3⟩
end Go.Proofs.Ytbmndicocdlhdaa
