/-
  A reader's step: take.
-/
import Derived.Test.YtdpagipbaddnfaaDoorL3Take2
namespace Go.Proofs.YtdpagipbaddnfaaDoor.L3
open Go.RowKit

theorem takeF_let {st : St} {c : Int} (h1 : ¬ st.ins = 1) (ha : 97 ≤ c) (hb : c ≤ 122) : takeF st c = letF st c := by
  unfold takeF
  rw [if_neg (fun h => h1 h.1), if_pos ⟨ha, hb⟩]
theorem takeF_dig {st : St} {c : Int} (h1 : ¬ st.ins = 1) (ha : 48 ≤ c) (hb : c ≤ 57) : takeF st c = digF st (c - 48) := by
  unfold takeF
  rw [if_neg (fun h => h1 h.1), if_neg (by omega), if_pos ⟨ha, hb⟩]
theorem takeF_rest {st : St} {c : Int} (h1 : ¬ (st.ins = 1 ∧ c ≠ 10)) (ha : ¬ (97 ≤ c ∧ c ≤ 122)) (hb : ¬ (48 ≤ c ∧ c ≤ 57)) : takeF st c = (finF st).bind fun s => othF s c := by
  unfold takeF
  rw [if_neg h1, if_neg ha, if_neg hb]
set_option maxHeartbeats 1000000 in
theorem take_any (r B : Nat) (tv wv : Value) (st : St) (c : Int) (m : Nat) (w : World) (h : Rd w r B tv wv st) (hd : Bd st m) (hm : m ≤ 20000) (hc0 : 0 ≤ c) (hc1 : c ≤ 2147483647) :
    Calls Tryd.prog 42 #[.pointer (some ⟨r, 0, none⟩), .int .i32 c] w fun e w' => StepPost r B (takeF st c) st.ln w e w' := by
  obtain ⟨-, -, c2, -, -, -⟩ := h.cells
  have q1 := hd.toks
  have q2 := hd.wd
  have q3 := hd.ln1
  have q4 := hd.ln2
  by_cases h1 : st.ins = 1
  · have t1 : (st.ins == 1) = true := by simp [h1]
    by_cases h10 : c = 10
    · have ho := takeF_rest (st := st) (c := c) (fun h => h.2 h10) (by omega) (by omega)
      have HO : Hid (takeF st c = _) := ho
      subst h10
      clear h1 ho
      go_enter Tryd.func42, Tryd.ntmps42
      go_wp2_with fail
      refine (finish_any r B _ _ st w h (by omega) hd.low).mono ?_
      rintro e w1 ⟨rfl, tv1, wv1, st1, hR1, hF1, hs1, hn1⟩
      cases hfin : finF st with
      | none =>
        have hl1 := hn1 hfin
        have HO2 : Hid (takeF st 10 = none) := by rw [HO.out, hfin]; rfl
        clear HO hn1 hs1 hfin
        go_wp2_with fail
        go_ret
        exact .no HO2.out hR1 hF1 hl1
      | some s1 =>
        obtain rfl := hs1 _ hfin
        obtain ⟨p1, p2, p3⟩ := finF_bd hd hfin
        have HO2 : Hid (takeF st 10 = othF st1 10) := by rw [HO.out, hfin]; rfl
        clear HO hn1 hs1 hfin
        go_wp2_with fail
        refine (takeOther_any r B _ _ st1 10 w1 hR1 (by omega) (by omega) (by omega)).mono ?_
        rintro e w2 ⟨rfl, tv2, wv2, st2, hR2, hF2, hs2, hn2⟩
        go_wp2_with fail
        go_ret
        refine ⟨by rw [HO2.out]; rfl, tv2, wv2, st2, hR2, hF1.trans hF2, fun s e => hs2 s (by rw [← HO2.out]; exact e), fun e => ?_⟩
        rw [hn2 (by rw [← HO2.out]; exact e), p2]
    · have t10 : (c != 10) = true := by simp [h10]
      have HO : Hid (takeF st c = some st) := if_pos ⟨h1, h10⟩
      clear h1 h10
      go_enter Tryd.func42, Tryd.ntmps42
      go_wp2_with fail
      go_ret
      exact .yes HO.out h (Fr.refl _ _ _)
  · have t1 : (st.ins == 1) = false := by simp [h1]
    by_cases hlet : 97 ≤ c ∧ c ≤ 122
    · obtain ⟨ha, hb⟩ := hlet
      have HO : Hid (takeF st c = letF st c) := takeF_let h1 ha hb
      clear h1
      go_enter Tryd.func42, Tryd.ntmps42
      go_wp2_with fail
      refine (takeLetter_any r B _ _ st c w h ha hb (by omega)).mono ?_
      rintro e w1 ⟨rfl, tv1, wv1, st1, hR1, hF1, hs1, hn1⟩
      go_wp2_with fail
      go_ret
      exact ⟨by rw [HO.out]; rfl, tv1, wv1, st1, hR1, hF1, fun s e => hs1 s (by rw [← HO.out]; exact e), fun e => hn1 (by rw [← HO.out]; exact e)⟩
    · by_cases hdig : 48 ≤ c ∧ c ≤ 57
      · obtain ⟨ha, hb⟩ := hdig
        have HO : Hid (takeF st c = digF st (c - 48)) := takeF_dig h1 ha hb
        have x1 : decide (97 ≤ c) = false := by simp; omega
        have hw1 : IntKind.i32.wrap (c - 48) = c - 48 := by simp [IntKind.wrap, IntKind.bits, IntKind.signed]; omega
        have hw2 : IntKind.i64.wrap (c - 48) = c - 48 := by simp [IntKind.wrap, IntKind.bits, IntKind.signed]; omega
        clear h1 hlet
        go_enter Tryd.func42, Tryd.ntmps42
        go_wp2_with fail
        refine (takeDigit_any r B _ _ st (c - 48) w h (by omega) (by omega) hd.num1 hd.num2 hd.sg1 hd.sg2).mono ?_
        rintro e w1 ⟨rfl, tv1, wv1, st1, hR1, hF1, hs1, hn1⟩
        go_wp2_with fail
        go_ret
        exact ⟨by rw [HO.out]; rfl, tv1, wv1, st1, hR1, hF1, fun s e => hs1 s (by rw [← HO.out]; exact e), fun e => hn1 (by rw [← HO.out]; exact e)⟩
      · have ho := takeF_rest (st := st) (c := c) (fun h => h1 h.1) hlet hdig
        have HO : Hid (takeF st c = _) := ho
        clear h1 ho
        have key : ∀ s1, finF st = some s1 → s1.T.length ≤ 100000 ∧ 0 ≤ s1.ln ∧ s1.ln ≤ 100000 ∧ s1.ln = st.ln := fun s1 hfin => by
          obtain ⟨p1, p2, p3⟩ := finF_bd hd hfin
          exact ⟨by omega, by omega, by omega, p2⟩
        have KEY : Hid (∀ s1, finF st = some s1 → s1.T.length ≤ 100000 ∧ 0 ≤ s1.ln ∧ s1.ln ≤ 100000 ∧ s1.ln = st.ln) := key
        clear key
        have x1 : (decide (97 ≤ c) = false ∧ decide (48 ≤ c) = false) ∨ (decide (97 ≤ c) = false ∧ decide (48 ≤ c) = true ∧ decide (c ≤ 57) = false) ∨ (decide (97 ≤ c) = true ∧ decide (c ≤ 122) = false ∧ decide (48 ≤ c) = true ∧ decide (c ≤ 57) = false) := by
          simp
          omega
        clear hlet hdig
        have hlow := hd.low
        rcases x1 with ⟨x1, x2⟩ | ⟨x1, x2, x3⟩ | ⟨x1, x2, x3, x4⟩
        all_goals
          go_enter Tryd.func42, Tryd.ntmps42
          go_wp2_with fail
          refine (finish_any r B _ _ st w h (by omega) hlow).mono ?_
          rintro e w1 ⟨rfl, tv1, wv1, st1, hR1, hF1, hs1, hn1⟩
          cases hfin : finF st with
          | none =>
            have hl1 := hn1 hfin
            have HO2 : Hid (takeF st c = none) := by rw [HO.out, hfin]; rfl
            clear HO hn1 hs1 hfin KEY
            go_wp2_with fail
            go_ret
            exact .no HO2.out hR1 hF1 hl1
          | some s1 =>
            obtain rfl := hs1 _ hfin
            obtain ⟨p1, p2, p3, p4⟩ := KEY.out _ hfin
            have HO2 : Hid (takeF st c = othF st1 c) := by rw [HO.out, hfin]; rfl
            have HP : Hid (st1.ln = st.ln) := p4
            clear HO hn1 hs1 hfin KEY p4
            go_wp2_with fail
            refine (takeOther_any r B _ _ st1 c w1 hR1 p1 p2 p3).mono ?_
            rintro e w2 ⟨rfl, tv2, wv2, st2, hR2, hF2, hs2, hn2⟩
            go_wp2_with fail
            go_ret
            refine ⟨by rw [HO2.out]; rfl, tv2, wv2, st2, hR2, hF1.trans hF2, fun s e => hs2 s (by rw [← HO2.out]; exact e), fun e => ?_⟩
            rw [hn2 (by rw [← HO2.out]; exact e), HP.out]
end Go.Proofs.YtdpagipbaddnfaaDoor.L3