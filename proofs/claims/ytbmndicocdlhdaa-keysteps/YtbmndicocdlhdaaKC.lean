/-
  What package key's calls answer.
-/
import Derived.Test.YtbmndicocdlhdaaKA
import Derived.Test.YtbmndicocdlhdaaKB
namespace Go.Proofs.Ytbmndicocdlhdaa
open Go.RowKit

theorem below_drewN {B : Nat} {w w' : World} (h : Below B w w') (n : Nat) : Below B w (w'.drewN n) := ⟨h.os, h.tape, h.output, h.size, h.block⟩
theorem below_alloc {w w' : World} (h : Below w.heap.size w w') (o : Obj) : Below w.heap.size w (w'.alloc o) := h.alloc h.size o
theorem below_then {w w1 w2 : World} (h1 : Below w.heap.size w w1) (h2 : Below w1.heap.size w1 w2) : Below w.heap.size w w2 := h1.trans (h2.mono h1.size)
/-- what measure leaves -/
def MesPost (k : Int) (w : World) (e : Ending) (w' : World) : Prop := e = .returned (.tuple #[.int .i64 (dpN k), .bool (okK k)]) ∧ Below w.heap.size w w'
theorem mes_no {k : Int} (h : ¬ isK k) : (Ending.returned (.tuple #[.int .i64 0, .bool false]) : Ending) = .returned (.tuple #[.int .i64 (dpN k), .bool (okK k)]) := by
  rw [dpN, if_neg h, okK, decide_eq_false h]
  rfl
theorem mes_yes {k : Int} {i : Nat} (h : isK k) (hd : (ofK k).dep = i) : (Ending.returned (.tuple #[.int .i64 (i : Int), .bool true]) : Ending) = .returned (.tuple #[.int .i64 (dpN k), .bool (okK k)]) := by
  rw [dpN, if_pos h, okK, decide_eq_true h, hd]
set_option maxHeartbeats 1000000 in
theorem measure_any (k : Int) (hk : inI k) (w : World) : Calls Try.prog 23 #[.int .i64 k] w (MesPost k w) := by
  have h50 : (2 : Int) ^ (sh 0).toNat = 1125899906842624 := sh_pow (by omega)
  have hs0 := sh_bd (i := 0) (by omega)
  by_cases hr : 1125899906842624 ≤ k ∧ k < 2251799813685248
  · have hq : k / 1125899906842624 = 1 := by omega
    have hbx := below_alloc (Below.refl w.heap.size w) (.cells #[.int .i64 k] 3)
    have hcx : (w.alloc (.cells #[.int .i64 k] 3)).cell? ⟨w.heap.size, 0, none⟩ = some (.int .i64 k) := by simp
    go_enter Try.func23, Try.ntmps23
    go_wp2_with fail
    refine (shift_any 0 _ rfl (by omega) _).mono ?_
    rintro e w1 ⟨rfl, rfl⟩
    go_wp2_with fail
    refine (forks_any k _).mono ?_
    rintro e w2 ⟨rfl, hw2⟩
    rw [← hw2] at hbx hcx
    clear hw2 hq h50 hs0
    go_wp2_with fail
    go_loopw [5] (fun dv wr => ∃ i : Nat, i ≤ 5 ∧ dv = .int .i64 i ∧ DgOk k i ∧ Below w1.heap.size w1 wr ∧ wr.cell? ⟨w1.heap.size, 0, none⟩ = some (.int .i64 k)) (fun dv _ => 5 - (intOf dv).toNat)
    case atStart => exact ⟨0, by omega, rfl, DgOk.zero k, hbx, hcx⟩
    case round =>
      obtain ⟨i, hi, rfl, hD, hB, hC⟩ := hrel
      clear hbx hcx
      by_cases h5 : i < 5
      · go_wp2_with fail
        refine (fork_any k _ (i + 1) _ (by omega) (by omega) _ hC).mono ?_
        rintro e w3 ⟨rfl, m0, rfl⟩
        replace hB := below_drewN hB m0
        replace hC : (wr.drewN m0).cell? ⟨w1.heap.size, 0, none⟩ = some (.int .i64 k) := hC
        generalize wr.drewN m0 = W2 at *
        by_cases hz : 0 < dg k (i + 1)
        · go_wp2_with fail
          refine (fork_any k _ (i + 1) _ (by omega) (by omega) _ hC).mono ?_
          rintro e w3 ⟨rfl, m1, rfl⟩
          replace hB := below_drewN hB m1
          replace hC : (W2.drewN m1).cell? ⟨w1.heap.size, 0, none⟩ = some (.int .i64 k) := hC
          generalize W2.drewN m1 = W3 at *
          by_cases hg : 1000 < dg k (i + 1)
          · have HN : Hid (¬ isK k) := big_no (by omega) (by omega) hg
            clear hD hr
            go_wp2_with fail
            exact bodyPost_ret (v := .tuple #[.int .i64 0, .bool false]) (by simp [results, Try.results23, go_sem]) rfl ⟨mes_no HN.out, hB⟩
          · have HD : Hid (DgOk k (i + 1)) := hD.next (by omega) (by omega)
            clear hD hr
            go_wp2_with fail
            go_roundw
            case rel => exact ⟨i + 1, by omega, by go_num, HD.out, hB, hC⟩
            case measure => simp [intOf]; omega
        · have h0 := (dig_bd k (i + 1)).1
          rcases mes_key hi hr.1 hr.2 hD (by omega) with ⟨m1, m2⟩
          clear hD hr
          go_wp2_with fail
          refine (upTo_any k hk i _ rfl hi _).mono ?_
          rintro e w3 ⟨rfl, m, rfl⟩
          have hB3 := below_drewN hB m
          by_cases he : k / wd i * wd i = k
          · have HY : Hid (isK k) := m1.2 he
            have HD : Hid ((ofK k).dep = i) := m2 (m1.2 he)
            have he2 : (k / wd i * wd i == k) = true := by simp [he]
            clear m1 m2 he
            go_wp2_with fail
            exact bodyPost_ret (v := .tuple #[.int .i64 (i : Int), .bool true]) (by simp [results, Try.results23, go_sem]) rfl ⟨mes_yes HY.out HD.out, hB3⟩
          · have HN : Hid (¬ isK k) := fun h => he (m1.1 h)
            have he2 : (k / wd i * wd i == k) = false := by simp [he]
            clear m1 m2 he
            go_wp2_with fail
            exact bodyPost_ret (v := .tuple #[.int .i64 0, .bool false]) (by simp [results, Try.results23, go_sem]) rfl ⟨mes_no HN.out, hB3⟩
      · obtain rfl : i = 5 := by omega
        rcases mes_key hi hr.1 hr.2 hD (by omega) with ⟨m1, m2⟩
        clear hD hr
        go_wp2_with fail
        refine (upTo_any k hk 5 _ rfl hi _).mono ?_
        rintro e w3 ⟨rfl, m, rfl⟩
        have hB3 := below_drewN hB m
        by_cases he : k / wd 5 * wd 5 = k
        · have HY : Hid (isK k) := m1.2 he
          have HD : Hid ((ofK k).dep = 5) := m2 (m1.2 he)
          have he2 : (k / wd 5 * wd 5 == k) = true := by simp [he]
          clear m1 m2 he
          go_wp2_with fail
          exact bodyPost_ret (v := .tuple #[.int .i64 5, .bool true]) (by simp [results, Try.results23, go_sem]) rfl ⟨mes_yes (i := 5) HY.out HD.out, hB3⟩
        · have HN : Hid (¬ isK k) := fun h => he (m1.1 h)
          have he2 : (k / wd 5 * wd 5 == k) = false := by simp [he]
          clear m1 m2 he
          go_wp2_with fail
          exact bodyPost_ret (v := .tuple #[.int .i64 0, .bool false]) (by simp [results, Try.results23, go_sem]) rfl ⟨mes_no HN.out, hB3⟩
  · have hq : (k / 1125899906842624 == 1) = false := by simp; omega
    have hn : ¬ isK k := fun h => hr ⟨h.1, h.2.1⟩
    clear hr
    go_enter Try.func23, Try.ntmps23
    go_wp2_with fail
    refine (shift_any 0 _ rfl (by omega) _).mono ?_
    rintro e w1 ⟨rfl, rfl⟩
    go_wp2_with fail
    exact bodyPost_ret (v := .tuple #[.int .i64 0, .bool false]) (by simp [results, Try.results23, go_sem]) rfl ⟨mes_no hn, Below.refl _ _⟩
end Go.Proofs.Ytbmndicocdlhdaa
