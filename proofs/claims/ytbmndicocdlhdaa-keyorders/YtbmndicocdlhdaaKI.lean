/-
  The law KeyOrders: its walk.
-/
import Derived.Test.YtbmndicocdlhdaaKG
namespace Go.Proofs.Ytbmndicocdlhdaa
open Go.RowKit

/-- three keys: how the first stands to the second, and both to the third -/
theorem three {t s r : Ky} (ht : t.Ok) (hs : s.Ok) (hr : r.Ok) :
    (ahB t.key s.key = true ∧ ahB s.key t.key = false ∧ (t.key == s.key) = false ∧ ahB s.key r.key = false) ∨
    (ahB t.key s.key = true ∧ ahB s.key t.key = false ∧ (t.key == s.key) = false ∧ ahB s.key r.key = true ∧ ahB t.key r.key = true) ∨
    (t = s) ∨
    (ahB t.key s.key = false ∧ ahB s.key t.key = true ∧ (t.key == s.key) = false) := by
  rw [ah_key ht hs, ah_key hs ht, ah_key hs hr, ah_key ht hr]
  have ne : t ≠ s → (t.key == s.key) = false := fun h => by
    simp only [beq_eq_false_iff_ne, ne_eq]
    exact fun e => h (key_inj ht hs e)
  rcases Int.lt_trichotomy t.rank s.rank with h | h | h
  · have hn : (t.key == s.key) = false := ne fun e => by subst e; omega
    by_cases h2 : s.rank < r.rank
    · exact .inr (.inl ⟨decide_eq_true h, decide_eq_false (by omega), hn, decide_eq_true h2, decide_eq_true (by omega)⟩)
    · exact .inl ⟨decide_eq_true h, decide_eq_false (by omega), hn, decide_eq_false h2⟩
  · exact .inr (.inr (.inl (rank_inj ht hs h)))
  · exact .inr (.inr (.inr ⟨decide_eq_false (by omega), decide_eq_true h, ne fun e => by subst e; omega⟩))
/-- a task's fork and its next -/
structure Two (x p q : Int) (d : Nat) (k : Int) : Prop where
  ip : inI p
  iq : inI q
  pa : paK p = x
  pn : paN p = k
  po : paO p = true
  apq : ahB p q = true
  apx : ahB p x = true
  axp : ahB x p = false
  upx : unB p x = true
  upq : unB p q = false
  dx : dpN x = d
  dp : dpN p = d + 1
theorem two_of {t : Ky} (ht : t.Ok) (hd : t.dep < 5) {k : Int} (h1 : 1 ≤ k) (h2 : k + 1 ≤ 1000) : Two t.key (t.ch k).key (t.ch (k + 1)).key t.dep k := by
  obtain ⟨a1, a2, a3, a4, a5⟩ := ch_facts ht hd h1 (by omega)
  obtain ⟨b1, b2, b3, b4, b5⟩ := ch_facts ht hd (n := k + 1) (by omega) h2
  obtain ⟨c1, c2, c3, c4⟩ := ch_apart ht hd h1 (n := k + 1) (by omega) h2
  have u := und_ch ht hd h1 (by omega)
  have ur := und_rank a1 ht u
  obtain ⟨q1, q2⟩ := paK_key a1 (by omega)
  exact ⟨inI_key a1, inI_key b1, by rw [q1, a4], by rw [q2, a5], by rw [paO_key a1]; exact decide_eq_true (by omega), by rw [ah_key a1 b1]; exact decide_eq_true c2, by rw [ah_key a1 ht]; exact decide_eq_true ur, by rw [ah_key ht a1]; exact decide_eq_false (by omega), by rw [un_key a1 ht]; exact decide_eq_true u, by rw [un_key a1 b1]; exact decide_eq_false c3, dp_key ht, by rw [dp_key a1, a2]⟩
set_option maxHeartbeats 8000000 in
set_option maxRecDepth 4000 in
theorem orders_walk (aa ba ca : Option Addr) (al bl cl ac bc cc : Nat) (n : Int) (hal : al ≤ 9223372036854775807) (hbl : bl ≤ 9223372036854775807) (hcl : cl ≤ 9223372036854775807) (w : World) (hA : NAt w aa al) (hB : NAt w ba bl) (hC : NAt w ca cl) :
    Calls Try.prog 4 #[.slice aa al ac, .slice ba bl bc, .slice ca cl cc, .int .i64 n] w fun e w' => e = .returned (.bool true) ∧ Below w.heap.size w w' := by
  obtain ⟨p1, p2⟩ := placeI_bd n 999 (by omega)
  have HPL : Hid (∀ wx, Calls Try.prog 22 #[.int .i64 n, .int .i64 999] wx fun e w' => e = .returned (.int .i64 (placeI n 999)) ∧ w' = wx) := fun wx => place_any n 999 wx (by omega) (by omega)
  generalize placeI n 999 = pv at *
  go_enter Try.func4, Try.ntmps4
  go_wp2_with fail
  refine (make_any aa al ac hal _ hA).mono ?_
  rintro e w1 ⟨t, ht, hdt, rfl, h1⟩
  go_wp2_with fail
  refine (make_any ba bl bc hbl _ (hB.kept h1)).mono ?_
  rintro e w2 ⟨s, hs, hds, rfl, h2⟩
  replace h2 := below_then h1 h2
  go_wp2_with fail
  refine (make_any ca cl cc hcl _ (hC.kept h2)).mono ?_
  rintro e w3 ⟨r, hr, hdr, rfl, h3⟩
  replace h3 := below_then h2 h3
  have ix := inI_key ht
  have iy := inI_key hs
  have iz := inI_key hr
  have fx := ok_key ht
  have fxx := ah_same t.key
  have h3c := three ht hs hr
  have htw : t.dep < 5 → ∃ p q, Two t.key p q t.dep (1 + pv) ∧ (∀ n', n' = 1 + pv → ∀ wx, Calls Try.prog 8 #[.int .i64 t.key, .int .i64 n'] wx fun e w' => e = .returned (.tuple #[.int .i64 p, .bool true]) ∧ Below wx.heap.size wx w') ∧ (∀ n', n' = 1 + pv + 1 → ∀ wx, Calls Try.prog 8 #[.int .i64 t.key, .int .i64 n'] wx fun e w' => e = .returned (.tuple #[.int .i64 q, .bool true]) ∧ Below wx.heap.size wx w') := fun hd =>
    ⟨_, _, two_of ht hd (by omega) (by omega), fun n' e => by subst e; exact Child_key ht hd (by omega) (by omega), fun n' e => by subst e; exact Child_key ht hd (by omega) (by omega)⟩
  have htn : ¬ t.dep < 5 → (∀ n', chO t.key n' = false) ∧ dpN t.key = 5 := fun hd => by
    have := dep_le t
    have e : t.dep = 5 := by omega
    exact ⟨fun n' => (ch_not (.inr (.inl (by rw [dp_key ht, e])))).1, by rw [dp_key ht, e]⟩
  have HTW : Hid _ := htw
  have HTN : Hid _ := htn
  clear htw htn hdt hds hdr hA hB hC hal hbl hcl h1 h2
  rcases h3c with f | f | f | f
  · obtain ⟨fxy, fyx, fne, fyz⟩ := f
    generalize t.key = x at *
    generalize s.key = y at *
    generalize r.key = z at *
    generalize t.dep = td at *
    clear ht hs hr
    have fn2 : (x != y) = true := by simp only [bne, fne]; rfl
    go_wp2_with fail
    refine (Check_any x ix _).mono ?_
    rintro e w4 ⟨rfl, h4⟩
    replace h4 := below_then h3 h4
    go_wp2_with fail
    refine (Ahead_any x x ix ix _).mono ?_
    rintro e w5 ⟨rfl, h5⟩
    replace h5 := below_then h4 h5
    go_wp2_with fail
    refine (Ahead_any x y ix iy _).mono ?_
    rintro e w6 ⟨rfl, h6⟩
    replace h6 := below_then h5 h6
    go_wp2_with fail
    refine (Ahead_any y x iy ix _).mono ?_
    rintro e w7 ⟨rfl, h7⟩
    replace h7 := below_then h6 h7
    go_wp2_with fail
    refine (Ahead_any x y ix iy _).mono ?_
    rintro e w8 ⟨rfl, h8⟩
    replace h8 := below_then h7 h8
    go_wp2_with fail
    refine (Ahead_any y z iy iz _).mono ?_
    rintro e w9 ⟨rfl, h9⟩
    replace h9 := below_then h8 h9
    go_wp2_with fail
    refine (HPL.out _).mono ?_
    rintro e w0 ⟨rfl, rfl⟩
    by_cases hd : td < 5
    · obtain ⟨p, q, hT, hc1, hc2⟩ := HTW.out hd
      obtain ⟨ip, iq, f1, f2, f3, f4, f5, f6, f7, f8, f9, f10⟩ := hT
      have HC1 : Hid _ := hc1
      have HC2 : Hid _ := hc2
      clear hc1 hc2
      go_wp2_with fail
      refine (HC1.out _ (by omega) _).mono ?_
      rintro e w10 ⟨rfl, h10⟩
      replace h10 := below_then h9 h10
      go_wp2_with fail
      refine (HC2.out _ (by omega) _).mono ?_
      rintro e w11 ⟨rfl, h11⟩
      replace h11 := below_then h10 h11
      go_wp2_with fail
      refine (Parent_any p ip _).mono ?_
      rintro e w12 ⟨rfl, h12⟩
      replace h12 := below_then h11 h12
      go_wp2_with fail
      refine (Ahead_any p q ip iq _).mono ?_
      rintro e w13 ⟨rfl, h13⟩
      replace h13 := below_then h12 h13
      go_wp2_with fail
      refine (Ahead_any p x ip ix _).mono ?_
      rintro e w14 ⟨rfl, h14⟩
      replace h14 := below_then h13 h14
      go_wp2_with fail
      refine (Ahead_any x p ix ip _).mono ?_
      rintro e w15 ⟨rfl, h15⟩
      replace h15 := below_then h14 h15
      go_wp2_with fail
      refine (Under_any p x ip ix _).mono ?_
      rintro e w16 ⟨rfl, h16⟩
      replace h16 := below_then h15 h16
      go_wp2_with fail
      refine (Under_any p q ip iq _).mono ?_
      rintro e w17 ⟨rfl, h17⟩
      replace h17 := below_then h16 h17
      go_wp2_with fail
      refine (Depth_any p ip _).mono ?_
      rintro e w18 ⟨rfl, h18⟩
      replace h18 := below_then h17 h18
      go_wp2_with fail
      refine (Depth_any x ix _).mono ?_
      rintro e w19 ⟨rfl, h19⟩
      replace h19 := below_then h18 h19
      go_wp2_with fail
      refine (awake_any _).mono ?_
      rintro e w20 ⟨rfl, h20⟩
      replace h20 := below_then h19 h20
      go_wp2_with fail
      go_ret
      exact ⟨rfl, h20⟩
    · obtain ⟨hno, f9⟩ := HTN.out hd
      have HNO : Hid _ := hno
      clear hno
      go_wp2_with fail
      refine (Child_none ix (HNO.out _) _).mono ?_
      rintro e w10 ⟨rfl, h10⟩
      replace h10 := below_then h9 h10
      go_wp2_with fail
      refine (Child_none ix (HNO.out _) _).mono ?_
      rintro e w11 ⟨rfl, h11⟩
      replace h11 := below_then h10 h11
      go_wp2_with fail
      refine (Depth_any x ix _).mono ?_
      rintro e w12 ⟨rfl, h12⟩
      replace h12 := below_then h11 h12
      go_wp2_with fail
      refine (awake_any _).mono ?_
      rintro e w13 ⟨rfl, h13⟩
      replace h13 := below_then h12 h13
      go_wp2_with fail
      go_ret
      exact ⟨rfl, h13⟩
  · obtain ⟨fxy, fyx, fne, fyz, fxz⟩ := f
    generalize t.key = x at *
    generalize s.key = y at *
    generalize r.key = z at *
    generalize t.dep = td at *
    clear ht hs hr
    have fn2 : (x != y) = true := by simp only [bne, fne]; rfl
    go_wp2_with fail
    refine (Check_any x ix _).mono ?_
    rintro e w4 ⟨rfl, h4⟩
    replace h4 := below_then h3 h4
    go_wp2_with fail
    refine (Ahead_any x x ix ix _).mono ?_
    rintro e w5 ⟨rfl, h5⟩
    replace h5 := below_then h4 h5
    go_wp2_with fail
    refine (Ahead_any x y ix iy _).mono ?_
    rintro e w6 ⟨rfl, h6⟩
    replace h6 := below_then h5 h6
    go_wp2_with fail
    refine (Ahead_any y x iy ix _).mono ?_
    rintro e w7 ⟨rfl, h7⟩
    replace h7 := below_then h6 h7
    go_wp2_with fail
    refine (Ahead_any x y ix iy _).mono ?_
    rintro e w8 ⟨rfl, h8⟩
    replace h8 := below_then h7 h8
    go_wp2_with fail
    refine (Ahead_any y z iy iz _).mono ?_
    rintro e w9 ⟨rfl, h9⟩
    replace h9 := below_then h8 h9
    go_wp2_with fail
    refine (Ahead_any x z ix iz _).mono ?_
    rintro e w10 ⟨rfl, h10⟩
    replace h10 := below_then h9 h10
    go_wp2_with fail
    refine (HPL.out _).mono ?_
    rintro e w0 ⟨rfl, rfl⟩
    by_cases hd : td < 5
    · obtain ⟨p, q, hT, hc1, hc2⟩ := HTW.out hd
      obtain ⟨ip, iq, f1, f2, f3, f4, f5, f6, f7, f8, f9, f10⟩ := hT
      have HC1 : Hid _ := hc1
      have HC2 : Hid _ := hc2
      clear hc1 hc2
      go_wp2_with fail
      refine (HC1.out _ (by omega) _).mono ?_
      rintro e w11 ⟨rfl, h11⟩
      replace h11 := below_then h10 h11
      go_wp2_with fail
      refine (HC2.out _ (by omega) _).mono ?_
      rintro e w12 ⟨rfl, h12⟩
      replace h12 := below_then h11 h12
      go_wp2_with fail
      refine (Parent_any p ip _).mono ?_
      rintro e w13 ⟨rfl, h13⟩
      replace h13 := below_then h12 h13
      go_wp2_with fail
      refine (Ahead_any p q ip iq _).mono ?_
      rintro e w14 ⟨rfl, h14⟩
      replace h14 := below_then h13 h14
      go_wp2_with fail
      refine (Ahead_any p x ip ix _).mono ?_
      rintro e w15 ⟨rfl, h15⟩
      replace h15 := below_then h14 h15
      go_wp2_with fail
      refine (Ahead_any x p ix ip _).mono ?_
      rintro e w16 ⟨rfl, h16⟩
      replace h16 := below_then h15 h16
      go_wp2_with fail
      refine (Under_any p x ip ix _).mono ?_
      rintro e w17 ⟨rfl, h17⟩
      replace h17 := below_then h16 h17
      go_wp2_with fail
      refine (Under_any p q ip iq _).mono ?_
      rintro e w18 ⟨rfl, h18⟩
      replace h18 := below_then h17 h18
      go_wp2_with fail
      refine (Depth_any p ip _).mono ?_
      rintro e w19 ⟨rfl, h19⟩
      replace h19 := below_then h18 h19
      go_wp2_with fail
      refine (Depth_any x ix _).mono ?_
      rintro e w20 ⟨rfl, h20⟩
      replace h20 := below_then h19 h20
      go_wp2_with fail
      refine (awake_any _).mono ?_
      rintro e w21 ⟨rfl, h21⟩
      replace h21 := below_then h20 h21
      go_wp2_with fail
      go_ret
      exact ⟨rfl, h21⟩
    · obtain ⟨hno, f9⟩ := HTN.out hd
      have HNO : Hid _ := hno
      clear hno
      go_wp2_with fail
      refine (Child_none ix (HNO.out _) _).mono ?_
      rintro e w11 ⟨rfl, h11⟩
      replace h11 := below_then h10 h11
      go_wp2_with fail
      refine (Child_none ix (HNO.out _) _).mono ?_
      rintro e w12 ⟨rfl, h12⟩
      replace h12 := below_then h11 h12
      go_wp2_with fail
      refine (Depth_any x ix _).mono ?_
      rintro e w13 ⟨rfl, h13⟩
      replace h13 := below_then h12 h13
      go_wp2_with fail
      refine (awake_any _).mono ?_
      rintro e w14 ⟨rfl, h14⟩
      replace h14 := below_then h13 h14
      go_wp2_with fail
      go_ret
      exact ⟨rfl, h14⟩
  · subst f
    have ee : (t.key == t.key) = true := by simp
    generalize t.key = x at *
    generalize r.key = z at *
    generalize t.dep = td at *
    clear ht hs hr
    go_wp2_with fail
    refine (Check_any x ix _).mono ?_
    rintro e w4 ⟨rfl, h4⟩
    replace h4 := below_then h3 h4
    go_wp2_with fail
    refine (Ahead_any x x ix ix _).mono ?_
    rintro e w5 ⟨rfl, h5⟩
    replace h5 := below_then h4 h5
    go_wp2_with fail
    refine (Ahead_any x x ix ix _).mono ?_
    rintro e w6 ⟨rfl, h6⟩
    replace h6 := below_then h5 h6
    go_wp2_with fail
    refine (Ahead_any x x ix ix _).mono ?_
    rintro e w7 ⟨rfl, h7⟩
    replace h7 := below_then h6 h7
    go_wp2_with fail
    refine (Ahead_any x x ix ix _).mono ?_
    rintro e w8 ⟨rfl, h8⟩
    replace h8 := below_then h7 h8
    go_wp2_with fail
    refine (HPL.out _).mono ?_
    rintro e w0 ⟨rfl, rfl⟩
    by_cases hd : td < 5
    · obtain ⟨p, q, hT, hc1, hc2⟩ := HTW.out hd
      obtain ⟨ip, iq, f1, f2, f3, f4, f5, f6, f7, f8, f9, f10⟩ := hT
      have HC1 : Hid _ := hc1
      have HC2 : Hid _ := hc2
      clear hc1 hc2
      go_wp2_with fail
      refine (HC1.out _ (by omega) _).mono ?_
      rintro e w9 ⟨rfl, h9⟩
      replace h9 := below_then h8 h9
      go_wp2_with fail
      refine (HC2.out _ (by omega) _).mono ?_
      rintro e w10 ⟨rfl, h10⟩
      replace h10 := below_then h9 h10
      go_wp2_with fail
      refine (Parent_any p ip _).mono ?_
      rintro e w11 ⟨rfl, h11⟩
      replace h11 := below_then h10 h11
      go_wp2_with fail
      refine (Ahead_any p q ip iq _).mono ?_
      rintro e w12 ⟨rfl, h12⟩
      replace h12 := below_then h11 h12
      go_wp2_with fail
      refine (Ahead_any p x ip ix _).mono ?_
      rintro e w13 ⟨rfl, h13⟩
      replace h13 := below_then h12 h13
      go_wp2_with fail
      refine (Ahead_any x p ix ip _).mono ?_
      rintro e w14 ⟨rfl, h14⟩
      replace h14 := below_then h13 h14
      go_wp2_with fail
      refine (Under_any p x ip ix _).mono ?_
      rintro e w15 ⟨rfl, h15⟩
      replace h15 := below_then h14 h15
      go_wp2_with fail
      refine (Under_any p q ip iq _).mono ?_
      rintro e w16 ⟨rfl, h16⟩
      replace h16 := below_then h15 h16
      go_wp2_with fail
      refine (Depth_any p ip _).mono ?_
      rintro e w17 ⟨rfl, h17⟩
      replace h17 := below_then h16 h17
      go_wp2_with fail
      refine (Depth_any x ix _).mono ?_
      rintro e w18 ⟨rfl, h18⟩
      replace h18 := below_then h17 h18
      go_wp2_with fail
      refine (awake_any _).mono ?_
      rintro e w19 ⟨rfl, h19⟩
      replace h19 := below_then h18 h19
      go_wp2_with fail
      go_ret
      exact ⟨rfl, h19⟩
    · obtain ⟨hno, f9⟩ := HTN.out hd
      have HNO : Hid _ := hno
      clear hno
      go_wp2_with fail
      refine (Child_none ix (HNO.out _) _).mono ?_
      rintro e w9 ⟨rfl, h9⟩
      replace h9 := below_then h8 h9
      go_wp2_with fail
      refine (Child_none ix (HNO.out _) _).mono ?_
      rintro e w10 ⟨rfl, h10⟩
      replace h10 := below_then h9 h10
      go_wp2_with fail
      refine (Depth_any x ix _).mono ?_
      rintro e w11 ⟨rfl, h11⟩
      replace h11 := below_then h10 h11
      go_wp2_with fail
      refine (awake_any _).mono ?_
      rintro e w12 ⟨rfl, h12⟩
      replace h12 := below_then h11 h12
      go_wp2_with fail
      go_ret
      exact ⟨rfl, h12⟩
  · obtain ⟨fxy, fyx, fne⟩ := f
    generalize t.key = x at *
    generalize s.key = y at *
    generalize r.key = z at *
    generalize t.dep = td at *
    clear ht hs hr
    have fn2 : (x != y) = true := by simp only [bne, fne]; rfl
    go_wp2_with fail
    refine (Check_any x ix _).mono ?_
    rintro e w4 ⟨rfl, h4⟩
    replace h4 := below_then h3 h4
    go_wp2_with fail
    refine (Ahead_any x x ix ix _).mono ?_
    rintro e w5 ⟨rfl, h5⟩
    replace h5 := below_then h4 h5
    go_wp2_with fail
    refine (Ahead_any x y ix iy _).mono ?_
    rintro e w6 ⟨rfl, h6⟩
    replace h6 := below_then h5 h6
    go_wp2_with fail
    refine (Ahead_any y x iy ix _).mono ?_
    rintro e w7 ⟨rfl, h7⟩
    replace h7 := below_then h6 h7
    go_wp2_with fail
    refine (Ahead_any x y ix iy _).mono ?_
    rintro e w8 ⟨rfl, h8⟩
    replace h8 := below_then h7 h8
    go_wp2_with fail
    refine (HPL.out _).mono ?_
    rintro e w0 ⟨rfl, rfl⟩
    by_cases hd : td < 5
    · obtain ⟨p, q, hT, hc1, hc2⟩ := HTW.out hd
      obtain ⟨ip, iq, f1, f2, f3, f4, f5, f6, f7, f8, f9, f10⟩ := hT
      have HC1 : Hid _ := hc1
      have HC2 : Hid _ := hc2
      clear hc1 hc2
      go_wp2_with fail
      refine (HC1.out _ (by omega) _).mono ?_
      rintro e w9 ⟨rfl, h9⟩
      replace h9 := below_then h8 h9
      go_wp2_with fail
      refine (HC2.out _ (by omega) _).mono ?_
      rintro e w10 ⟨rfl, h10⟩
      replace h10 := below_then h9 h10
      go_wp2_with fail
      refine (Parent_any p ip _).mono ?_
      rintro e w11 ⟨rfl, h11⟩
      replace h11 := below_then h10 h11
      go_wp2_with fail
      refine (Ahead_any p q ip iq _).mono ?_
      rintro e w12 ⟨rfl, h12⟩
      replace h12 := below_then h11 h12
      go_wp2_with fail
      refine (Ahead_any p x ip ix _).mono ?_
      rintro e w13 ⟨rfl, h13⟩
      replace h13 := below_then h12 h13
      go_wp2_with fail
      refine (Ahead_any x p ix ip _).mono ?_
      rintro e w14 ⟨rfl, h14⟩
      replace h14 := below_then h13 h14
      go_wp2_with fail
      refine (Under_any p x ip ix _).mono ?_
      rintro e w15 ⟨rfl, h15⟩
      replace h15 := below_then h14 h15
      go_wp2_with fail
      refine (Under_any p q ip iq _).mono ?_
      rintro e w16 ⟨rfl, h16⟩
      replace h16 := below_then h15 h16
      go_wp2_with fail
      refine (Depth_any p ip _).mono ?_
      rintro e w17 ⟨rfl, h17⟩
      replace h17 := below_then h16 h17
      go_wp2_with fail
      refine (Depth_any x ix _).mono ?_
      rintro e w18 ⟨rfl, h18⟩
      replace h18 := below_then h17 h18
      go_wp2_with fail
      refine (awake_any _).mono ?_
      rintro e w19 ⟨rfl, h19⟩
      replace h19 := below_then h18 h19
      go_wp2_with fail
      go_ret
      exact ⟨rfl, h19⟩
    · obtain ⟨hno, f9⟩ := HTN.out hd
      have HNO : Hid _ := hno
      clear hno
      go_wp2_with fail
      refine (Child_none ix (HNO.out _) _).mono ?_
      rintro e w9 ⟨rfl, h9⟩
      replace h9 := below_then h8 h9
      go_wp2_with fail
      refine (Child_none ix (HNO.out _) _).mono ?_
      rintro e w10 ⟨rfl, h10⟩
      replace h10 := below_then h9 h10
      go_wp2_with fail
      refine (Depth_any x ix _).mono ?_
      rintro e w11 ⟨rfl, h11⟩
      replace h11 := below_then h10 h11
      go_wp2_with fail
      refine (awake_any _).mono ?_
      rintro e w12 ⟨rfl, h12⟩
      replace h12 := below_then h11 h12
      go_wp2_with fail
      go_ret
      exact ⟨rfl, h12⟩
end Go.Proofs.Ytbmndicocdlhdaa
