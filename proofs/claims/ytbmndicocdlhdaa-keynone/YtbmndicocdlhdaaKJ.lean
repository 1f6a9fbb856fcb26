/-
  The law KeyNone: its walk.
-/
import Derived.Test.YtbmndicocdlhdaaKG
namespace Go.Proofs.Ytbmndicocdlhdaa
open Go.RowKit

/-- what the calls answer at a number that is no key -/
structure BadC (k b : Int) : Prop where
  ch : ∀ b', b' = b → ∀ wx, Calls Try.prog 8 #[.int .i64 b', .int .i64 1] wx fun e w' => e = .returned (.tuple #[.int .i64 0, .bool false]) ∧ Below wx.heap.size wx w'
  ck : ∀ n', n' < 1 ∨ 1000 < n' → ∀ wx, Calls Try.prog 8 #[.int .i64 k, .int .i64 n'] wx fun e w' => e = .returned (.tuple #[.int .i64 0, .bool false]) ∧ Below wx.heap.size wx w'
  pa : ∀ b', b' = b → ∀ wx, Calls Try.prog 10 #[.int .i64 b'] wx fun e w' => e = .returned (.tuple #[.int .i64 0, .int .i64 0, .bool false]) ∧ Below wx.heap.size wx w'
  cc : ∀ b', b' = b → ∀ wx, Calls Try.prog 12 #[.int .i64 b'] wx fun e w' => e = .returned (.bool false) ∧ Below wx.heap.size wx w'
  dp : ∀ b', b' = b → ∀ wx, Calls Try.prog 14 #[.int .i64 b'] wx fun e w' => e = .returned (.int .i64 0) ∧ Below wx.heap.size wx w'
  a1 : ∀ b', b' = b → ∀ wx, Calls Try.prog 18 #[.int .i64 b', .int .i64 k] wx fun e w' => e = .returned (.bool false) ∧ Below wx.heap.size wx w'
  a2 : ∀ b', b' = b → ∀ wx, Calls Try.prog 18 #[.int .i64 k, .int .i64 b'] wx fun e w' => e = .returned (.bool false) ∧ Below wx.heap.size wx w'
  u1 : ∀ b', b' = b → ∀ wx, Calls Try.prog 16 #[.int .i64 b', .int .i64 k] wx fun e w' => e = .returned (.bool false) ∧ Below wx.heap.size wx w'
theorem bad_of {k b : Int} (ik : inI k) (ib : inI b) (hb : ¬ isK b) : BadC k b := by
  have h0 : okK b = false := decide_eq_false hb
  refine ⟨?_, ?_, ?_, ?_, ?_, ?_, ?_, ?_⟩
  · rintro _ rfl wx
    exact Child_none ib (chO_bad h0 1) wx
  · intro n' hn wx
    exact Child_none ik (ch_not (.inr (.inr hn))).1 wx
  · rintro _ rfl wx
    have h := Parent_any _ ib wx
    unfold PaPost at h
    obtain ⟨q1, q2, q3⟩ := pa_not (dp_no h0)
    rw [q1, q2, q3] at h
    exact h
  · rintro _ rfl wx
    have h := Check_any _ ib wx
    rw [h0] at h
    exact h
  · rintro _ rfl wx
    have h := Depth_any _ ib wx
    rw [dp_no h0] at h
    exact h
  · rintro _ rfl wx
    have h := Ahead_any _ _ ib ik wx
    rw [ah_bad1 h0] at h
    exact h
  · rintro _ rfl wx
    have h := Ahead_any _ _ ik ib wx
    rw [ah_bad2 h0] at h
    exact h
  · rintro _ rfl wx
    have h := Under_any _ _ ib ik wx
    rw [un_bad1 h0] at h
    exact h
theorem bad0 {k : Int} (h : 1125899906842624 ≤ k) : ¬ isK (-k) := fun x => by have := x.1; omega
theorem bad1 {k : Int} (h : 1125899906842624 ≤ k) : ¬ isK (k + 1125899906842624) := fun x => by have := x.2.1; omega
theorem bad2 {n : Int} (h1 : 1 ≤ n) (h2 : n ≤ 20) : ¬ isK (1125899906843625 + n) := by
  rw [isK_iff]
  simp only [dg, wd]
  omega
theorem bad3 : ¬ isK 2250700302057472 := by decide +kernel
theorem bad4 {n : Int} (h2 : n ≤ 20) : ¬ isK n := fun x => by have := x.1; omega
set_option maxHeartbeats 8000000 in
set_option maxRecDepth 4000 in
theorem none_walk (aa : Option Addr) (al ac : Nat) (how v : Int) (hal : al ≤ 9223372036854775807) (w : World) (hA : NAt w aa al) :
    Calls Try.prog 6 #[.slice aa al ac, .int .i64 how, .int .i64 v] w fun e w' => e = .returned (.bool true) ∧ Below w.heap.size w w' := by
  obtain ⟨p1, p2⟩ := placeI_bd v 20 (by omega)
  obtain ⟨p3, p4⟩ := placeI_bd how 5 (by omega)
  have HPL : Hid (∀ wx, Calls Try.prog 22 #[.int .i64 v, .int .i64 20] wx fun e w' => e = .returned (.int .i64 (placeI v 20)) ∧ w' = wx) := fun wx => place_any v 20 wx (by omega) (by omega)
  have HPH : Hid (∀ wx, Calls Try.prog 22 #[.int .i64 how, .int .i64 5] wx fun e w' => e = .returned (.int .i64 (placeI how 5)) ∧ w' = wx) := fun wx => place_any how 5 wx (by omega) (by omega)
  generalize placeI v 20 = pv at *
  generalize placeI how 5 = ph at *
  go_enter Try.func6, Try.ntmps6
  go_wp2_with fail
  refine (make_any aa al ac hal _ hA).mono ?_
  rintro e w1 ⟨t, ht, -, rfl, h1⟩
  have ik := inI_key ht
  obtain ⟨k1, k2⟩ := key_bd ht
  clear ht hA
  generalize t.key = k at *
  go_wp2_with fail
  refine (HPL.out _).mono ?_
  rintro e w2 ⟨rfl, rfl⟩
  go_wp2_with fail
  refine (HPH.out _).mono ?_
  rintro e w3 ⟨rfl, rfl⟩
  clear HPL HPH
  have hc : ph = 0 ∨ ph = 1 ∨ ph = 2 ∨ ph = 3 ∨ ph = 4 := by omega
  clear p3 p4
  rcases hc with rfl | rfl | rfl | rfl | rfl
  · have HB : Hid (BadC k (-k)) := bad_of ik ⟨by omega, by omega⟩ (bad0 k1)
    go_wp2_with fail
    refine (HB.out.ch _ (by omega) _).mono ?_
    rintro e w4 ⟨rfl, h4⟩
    replace h4 := below_then h1 h4
    go_wp2_with fail
    refine (HB.out.ck _ (by omega) _).mono ?_
    rintro e w5 ⟨rfl, h5⟩
    replace h5 := below_then h4 h5
    go_wp2_with fail
    refine (HB.out.ck _ (by omega) _).mono ?_
    rintro e w6 ⟨rfl, h6⟩
    replace h6 := below_then h5 h6
    go_wp2_with fail
    refine (HB.out.pa _ (by omega) _).mono ?_
    rintro e w7 ⟨rfl, h7⟩
    replace h7 := below_then h6 h7
    go_wp2_with fail
    refine (HB.out.cc _ (by omega) _).mono ?_
    rintro e w8 ⟨rfl, h8⟩
    replace h8 := below_then h7 h8
    go_wp2_with fail
    refine (HB.out.dp _ (by omega) _).mono ?_
    rintro e w9 ⟨rfl, h9⟩
    replace h9 := below_then h8 h9
    go_wp2_with fail
    refine (HB.out.a1 _ (by omega) _).mono ?_
    rintro e w10 ⟨rfl, h10⟩
    replace h10 := below_then h9 h10
    go_wp2_with fail
    refine (HB.out.a2 _ (by omega) _).mono ?_
    rintro e w11 ⟨rfl, h11⟩
    replace h11 := below_then h10 h11
    go_wp2_with fail
    refine (HB.out.u1 _ (by omega) _).mono ?_
    rintro e w12 ⟨rfl, h12⟩
    replace h12 := below_then h11 h12
    go_wp2_with fail
    refine (awake_any _).mono ?_
    rintro e w13 ⟨rfl, h13⟩
    replace h13 := below_then h12 h13
    go_wp2_with fail
    go_ret
    exact ⟨rfl, h13⟩
  · have HB : Hid (BadC k (k + 1125899906842624)) := bad_of ik ⟨by omega, by omega⟩ (bad1 k1)
    go_wp2_with fail
    refine (HB.out.ch _ (by omega) _).mono ?_
    rintro e w4 ⟨rfl, h4⟩
    replace h4 := below_then h1 h4
    go_wp2_with fail
    refine (HB.out.ck _ (by omega) _).mono ?_
    rintro e w5 ⟨rfl, h5⟩
    replace h5 := below_then h4 h5
    go_wp2_with fail
    refine (HB.out.ck _ (by omega) _).mono ?_
    rintro e w6 ⟨rfl, h6⟩
    replace h6 := below_then h5 h6
    go_wp2_with fail
    refine (HB.out.pa _ (by omega) _).mono ?_
    rintro e w7 ⟨rfl, h7⟩
    replace h7 := below_then h6 h7
    go_wp2_with fail
    refine (HB.out.cc _ (by omega) _).mono ?_
    rintro e w8 ⟨rfl, h8⟩
    replace h8 := below_then h7 h8
    go_wp2_with fail
    refine (HB.out.dp _ (by omega) _).mono ?_
    rintro e w9 ⟨rfl, h9⟩
    replace h9 := below_then h8 h9
    go_wp2_with fail
    refine (HB.out.a1 _ (by omega) _).mono ?_
    rintro e w10 ⟨rfl, h10⟩
    replace h10 := below_then h9 h10
    go_wp2_with fail
    refine (HB.out.a2 _ (by omega) _).mono ?_
    rintro e w11 ⟨rfl, h11⟩
    replace h11 := below_then h10 h11
    go_wp2_with fail
    refine (HB.out.u1 _ (by omega) _).mono ?_
    rintro e w12 ⟨rfl, h12⟩
    replace h12 := below_then h11 h12
    go_wp2_with fail
    refine (awake_any _).mono ?_
    rintro e w13 ⟨rfl, h13⟩
    replace h13 := below_then h12 h13
    go_wp2_with fail
    go_ret
    exact ⟨rfl, h13⟩
  · have HB : Hid (BadC k (1125899906843625 + (1 + pv))) := bad_of ik ⟨by omega, by omega⟩ (bad2 (by omega) (by omega))
    go_wp2_with fail
    refine (HB.out.ch _ (by omega) _).mono ?_
    rintro e w4 ⟨rfl, h4⟩
    replace h4 := below_then h1 h4
    go_wp2_with fail
    refine (HB.out.ck _ (by omega) _).mono ?_
    rintro e w5 ⟨rfl, h5⟩
    replace h5 := below_then h4 h5
    go_wp2_with fail
    refine (HB.out.ck _ (by omega) _).mono ?_
    rintro e w6 ⟨rfl, h6⟩
    replace h6 := below_then h5 h6
    go_wp2_with fail
    refine (HB.out.pa _ (by omega) _).mono ?_
    rintro e w7 ⟨rfl, h7⟩
    replace h7 := below_then h6 h7
    go_wp2_with fail
    refine (HB.out.cc _ (by omega) _).mono ?_
    rintro e w8 ⟨rfl, h8⟩
    replace h8 := below_then h7 h8
    go_wp2_with fail
    refine (HB.out.dp _ (by omega) _).mono ?_
    rintro e w9 ⟨rfl, h9⟩
    replace h9 := below_then h8 h9
    go_wp2_with fail
    refine (HB.out.a1 _ (by omega) _).mono ?_
    rintro e w10 ⟨rfl, h10⟩
    replace h10 := below_then h9 h10
    go_wp2_with fail
    refine (HB.out.a2 _ (by omega) _).mono ?_
    rintro e w11 ⟨rfl, h11⟩
    replace h11 := below_then h10 h11
    go_wp2_with fail
    refine (HB.out.u1 _ (by omega) _).mono ?_
    rintro e w12 ⟨rfl, h12⟩
    replace h12 := below_then h11 h12
    go_wp2_with fail
    refine (awake_any _).mono ?_
    rintro e w13 ⟨rfl, h13⟩
    replace h13 := below_then h12 h13
    go_wp2_with fail
    go_ret
    exact ⟨rfl, h13⟩
  · have HB : Hid (BadC k (2250700302057472)) := bad_of ik ⟨by omega, by omega⟩ (bad3)
    go_wp2_with fail
    refine (HB.out.ch _ (by omega) _).mono ?_
    rintro e w4 ⟨rfl, h4⟩
    replace h4 := below_then h1 h4
    go_wp2_with fail
    refine (HB.out.ck _ (by omega) _).mono ?_
    rintro e w5 ⟨rfl, h5⟩
    replace h5 := below_then h4 h5
    go_wp2_with fail
    refine (HB.out.ck _ (by omega) _).mono ?_
    rintro e w6 ⟨rfl, h6⟩
    replace h6 := below_then h5 h6
    go_wp2_with fail
    refine (HB.out.pa _ (by omega) _).mono ?_
    rintro e w7 ⟨rfl, h7⟩
    replace h7 := below_then h6 h7
    go_wp2_with fail
    refine (HB.out.cc _ (by omega) _).mono ?_
    rintro e w8 ⟨rfl, h8⟩
    replace h8 := below_then h7 h8
    go_wp2_with fail
    refine (HB.out.dp _ (by omega) _).mono ?_
    rintro e w9 ⟨rfl, h9⟩
    replace h9 := below_then h8 h9
    go_wp2_with fail
    refine (HB.out.a1 _ (by omega) _).mono ?_
    rintro e w10 ⟨rfl, h10⟩
    replace h10 := below_then h9 h10
    go_wp2_with fail
    refine (HB.out.a2 _ (by omega) _).mono ?_
    rintro e w11 ⟨rfl, h11⟩
    replace h11 := below_then h10 h11
    go_wp2_with fail
    refine (HB.out.u1 _ (by omega) _).mono ?_
    rintro e w12 ⟨rfl, h12⟩
    replace h12 := below_then h11 h12
    go_wp2_with fail
    refine (awake_any _).mono ?_
    rintro e w13 ⟨rfl, h13⟩
    replace h13 := below_then h12 h13
    go_wp2_with fail
    go_ret
    exact ⟨rfl, h13⟩
  · have HB : Hid (BadC k (1 + pv)) := bad_of ik ⟨by omega, by omega⟩ (bad4 (by omega))
    go_wp2_with fail
    refine (HB.out.ch _ (by omega) _).mono ?_
    rintro e w4 ⟨rfl, h4⟩
    replace h4 := below_then h1 h4
    go_wp2_with fail
    refine (HB.out.ck _ (by omega) _).mono ?_
    rintro e w5 ⟨rfl, h5⟩
    replace h5 := below_then h4 h5
    go_wp2_with fail
    refine (HB.out.ck _ (by omega) _).mono ?_
    rintro e w6 ⟨rfl, h6⟩
    replace h6 := below_then h5 h6
    go_wp2_with fail
    refine (HB.out.pa _ (by omega) _).mono ?_
    rintro e w7 ⟨rfl, h7⟩
    replace h7 := below_then h6 h7
    go_wp2_with fail
    refine (HB.out.cc _ (by omega) _).mono ?_
    rintro e w8 ⟨rfl, h8⟩
    replace h8 := below_then h7 h8
    go_wp2_with fail
    refine (HB.out.dp _ (by omega) _).mono ?_
    rintro e w9 ⟨rfl, h9⟩
    replace h9 := below_then h8 h9
    go_wp2_with fail
    refine (HB.out.a1 _ (by omega) _).mono ?_
    rintro e w10 ⟨rfl, h10⟩
    replace h10 := below_then h9 h10
    go_wp2_with fail
    refine (HB.out.a2 _ (by omega) _).mono ?_
    rintro e w11 ⟨rfl, h11⟩
    replace h11 := below_then h10 h11
    go_wp2_with fail
    refine (HB.out.u1 _ (by omega) _).mono ?_
    rintro e w12 ⟨rfl, h12⟩
    replace h12 := below_then h11 h12
    go_wp2_with fail
    refine (awake_any _).mono ?_
    rintro e w13 ⟨rfl, h13⟩
    replace h13 := below_then h12 h13
    go_wp2_with fail
    go_ret
    exact ⟨rfl, h13⟩
end Go.Proofs.Ytbmndicocdlhdaa
