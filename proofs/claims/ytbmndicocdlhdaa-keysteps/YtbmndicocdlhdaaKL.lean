/-
  The law KeySteps: its walk.
-/
import Derived.Test.YtbmndicocdlhdaaKG
namespace Go.Proofs.Ytbmndicocdlhdaa
open Go.RowKit

/-- two forks of one task, and what lies under them: how far the law is -/
structure Stp (t x y p q : Ky) (d : Nat) : Prop where
  tk : t.Ok
  xk : x.Ok
  yk : y.Ok
  pk : p.Ok
  qk : q.Ok
  pd : p.dep = d
  qd : q.dep = d
  px : p = x ∨ und p x
  qy : q = y ∨ und q y
  xy : x.rank ≤ y.key
  yt : und y t
/-- what the law asks of the next two -/
structure Stq (t x y p q : Int) : Prop where
  ip : inI p
  iq : inI q
  f1 : ahB p x = true
  f2 : ahB p q = true
  f3 : ahB q p = false
  f4 : ahB p y = true
  f5 : ahB x q = true
  f6 : ahB q y = true
  f7 : ahB q t = true
theorem und_next {p x : Ky} (hp : p.Ok) (hx : x.Ok) (h : p = x ∨ und p x) (hd : p.dep < 5) {n : Int} (h1 : 1 ≤ n) (h2 : n ≤ 1000) : und (p.ch n) x := by
  have u := und_ch hp hd h1 h2
  rcases h with rfl | h
  · exact u
  · exact und_trans hp hx u h
theorem Stp.next {t x y p q : Ky} {d : Nat} (h : Stp t x y p q d) (hd : d < 5) {n : Int} (h1 : 1 ≤ n) (h2 : n ≤ 1000) : Stp t x y (p.ch n) (q.ch n) (d + 1) ∧ Stq t.key x.key y.key (p.ch n).key (q.ch n).key := by
  have hpd : p.dep < 5 := by rw [h.pd]; exact hd
  have hqd : q.dep < 5 := by rw [h.qd]; exact hd
  obtain ⟨a1, a2, -⟩ := ch_facts h.pk hpd h1 h2
  obtain ⟨b1, b2, -⟩ := ch_facts h.qk hqd h1 h2
  have u := und_next h.pk h.xk h.px hpd h1 h2
  have v := und_next h.qk h.yk h.qy hqd h1 h2
  have r1 := und_rank a1 h.xk u
  have r2 := apart_under a1 h.xk h.xy (.inr u) (.inr v)
  have r4 := apart_under a1 h.xk h.xy (.inr u) (.inl rfl)
  have r5 := apart_under h.xk h.xk h.xy (.inl rfl) (.inr v)
  have r6 := und_rank b1 h.yk v
  have r7 := und_rank b1 h.tk (und_trans h.yk h.tk v h.yt)
  refine ⟨⟨h.tk, h.xk, h.yk, a1, b1, by rw [a2, h.pd], by rw [b2, h.qd], .inr u, .inr v, h.xy, h.yt⟩, ⟨inI_key a1, inI_key b1, ?_, ?_, ?_, ?_, ?_, ?_, ?_⟩⟩
  · rw [ah_key a1 h.xk]; exact decide_eq_true r1
  · rw [ah_key a1 b1]; exact decide_eq_true r2.2
  · rw [ah_key b1 a1]; exact decide_eq_false (by omega)
  · rw [ah_key a1 h.yk]; exact decide_eq_true r4.2
  · rw [ah_key h.xk b1]; exact decide_eq_true r5.2
  · rw [ah_key b1 h.yk]; exact decide_eq_true r6
  · rw [ah_key b1 h.tk]; exact decide_eq_true r7
theorem Stp.first {t : Ky} (ht : t.Ok) (hd : t.dep < 5) {m n : Int} (h1 : 1 ≤ m) (h2 : m < n) (h3 : n ≤ 1000) : Stp t (t.ch m) (t.ch n) (t.ch m) (t.ch n) (t.dep + 1) ∧ ahB (t.ch m).key (t.ch n).key = true := by
  obtain ⟨a1, a2, -⟩ := ch_facts ht hd h1 (n := m) (by omega)
  obtain ⟨b1, b2, -⟩ := ch_facts ht hd (n := n) (by omega) h3
  obtain ⟨c1, c2, -, -⟩ := ch_apart ht hd h1 h2 h3
  exact ⟨⟨ht, a1, b1, a1, b1, a2, b2, .inl rfl, .inl rfl, c1, und_ch ht hd (by omega) h3⟩, by rw [ah_key a1 b1]; exact decide_eq_true c2⟩
set_option maxHeartbeats 8000000 in
set_option maxRecDepth 4000 in
theorem steps_walk (aa ba : Option Addr) (al bl ac bc : Nat) (a b : Int) (hal : al ≤ 9223372036854775807) (hbl : bl ≤ 9223372036854775807) (w : World) (hA : NAt w aa al) (hB : NAt w ba bl) :
    Calls Try.prog 7 #[.slice aa al ac, .int .i64 a, .int .i64 b, .slice ba bl bc] w fun e w' => e = .returned (.bool true) ∧ Below w.heap.size w w' := by
  by_cases h2 : 2 < al
  · go_enter Try.func7, Try.ntmps7
    go_wp2_with fail
    refine (awake_any _).mono ?_
    rintro e w1 ⟨rfl, h1⟩
    go_wp2_with fail
    go_ret
    exact ⟨rfl, h1⟩
  by_cases h3 : 2 < bl
  · go_enter Try.func7, Try.ntmps7
    go_wp2_with fail
    refine (awake_any _).mono ?_
    rintro e w1 ⟨rfl, h1⟩
    go_wp2_with fail
    go_ret
    exact ⟨rfl, h1⟩
  obtain ⟨p1, p2⟩ := placeI_bd a 400 (by omega)
  obtain ⟨p3, p4⟩ := placeI_bd b 400 (by omega)
  have HPA : Hid (∀ wx, Calls Try.prog 22 #[.int .i64 a, .int .i64 400] wx fun e w' => e = .returned (.int .i64 (placeI a 400)) ∧ w' = wx) := fun wx => place_any a 400 wx (by omega) (by omega)
  have HPB : Hid (∀ wx, Calls Try.prog 22 #[.int .i64 b, .int .i64 400] wx fun e w' => e = .returned (.int .i64 (placeI b 400)) ∧ w' = wx) := fun wx => place_any b 400 wx (by omega) (by omega)
  generalize placeI a 400 = pa at *
  generalize placeI b 400 = pb at *
  go_enter Try.func7, Try.ntmps7
  go_wp2_with fail
  refine (make_any aa al ac hal _ hA).mono ?_
  rintro e w1 ⟨t, ht, hd, rfl, h1⟩
  replace hB := hB.kept h1
  have hd2 : t.dep ≤ 2 := by omega
  obtain ⟨s1, s2⟩ := Stp.first ht (m := 1 + pa) (n := 1 + pa + 1 + pb) (by omega) (by omega) (by omega) (by omega)
  have HC1 : Hid (∀ n', n' = 1 + pa → ∀ wx, Calls Try.prog 8 #[.int .i64 t.key, .int .i64 n'] wx fun e w' => e = .returned (.tuple #[.int .i64 (t.ch (1 + pa)).key, .bool true]) ∧ Below wx.heap.size wx w') := fun n' e => by subst e; exact Child_key ht (by omega) (by omega) (by omega)
  have HC2 : Hid (∀ n', n' = 1 + pa + 1 + pb → ∀ wx, Calls Try.prog 8 #[.int .i64 t.key, .int .i64 n'] wx fun e w' => e = .returned (.tuple #[.int .i64 (t.ch (1 + pa + 1 + pb)).key, .bool true]) ∧ Below wx.heap.size wx w') := fun n' e => by subst e; exact Child_key ht (by omega) (by omega) (by omega)
  have HS1 : Hid (Stp t (t.ch (1 + pa)) (t.ch (1 + pa + 1 + pb)) (t.ch (1 + pa)) (t.ch (1 + pa + 1 + pb)) (t.dep + 1)) := s1
  have it := inI_key ht
  have ix := inI_key s1.xk
  have iy := inI_key s1.yk
  clear s1 hd ht hA
  generalize t.ch (1 + pa) = x at *
  generalize t.ch (1 + pa + 1 + pb) = y at *
  generalize t.dep = td at *
  go_wp2_with fail
  refine (HPA.out _).mono ?_
  rintro e w2 ⟨rfl, rfl⟩
  go_wp2_with fail
  refine (HPB.out _).mono ?_
  rintro e w3 ⟨rfl, rfl⟩
  go_wp2_with fail
  refine (HC1.out _ (by omega) _).mono ?_
  rintro e w4 ⟨rfl, h4⟩
  replace hB := hB.kept h4
  replace h4 := below_then h1 h4
  go_wp2_with fail
  refine (HC2.out _ (by omega) _).mono ?_
  rintro e w5 ⟨rfl, h5⟩
  have hN := hB.kept h5
  replace h5 := below_then h4 h5
  clear hB
  clear HC1 HC2 HPA HPB
  go_wp2_with fail
  go_loopw [16, 17, 18] (fun pv qv iv wr => ∃ (i : Nat) (p q : Ky), i ≤ bl ∧ Stp t x y p q (td + 1 + i) ∧ pv = .int .i64 p.key ∧ qv = .int .i64 q.key ∧ iv = .int .i64 i ∧ Below w.heap.size w wr ∧ NAt wr ba bl) (fun _ _ iv _ => 2 - (intOf iv).toNat)
  case atStart => exact ⟨0, x, y, by omega, HS1.out, rfl, rfl, rfl, h5, hN⟩
  case round =>
    obtain ⟨i, p, q, hi, hS, rfl, rfl, rfl, hBl, hNr⟩ := hrel
    clear hN HS1
    by_cases hlt : i < bl
    · obtain ⟨g, o, z, rfl, hc⟩ := hNr i hlt
      obtain ⟨z1, z2⟩ := placeI_bd z 900 (by omega)
      have HPZ : Hid (∀ wx, Calls Try.prog 22 #[.int .i64 z, .int .i64 900] wx fun e w' => e = .returned (.int .i64 (placeI z 900)) ∧ w' = wx) := fun wx => place_any z 900 wx (by omega) (by omega)
      generalize placeI z 900 = pz at *
      obtain ⟨n1, n2⟩ := hS.next (by omega) (n := 1 + pz) (by omega) (by omega)
      have HC1 : Hid (∀ n', n' = 1 + pz → ∀ wx, Calls Try.prog 8 #[.int .i64 p.key, .int .i64 n'] wx fun e w' => e = .returned (.tuple #[.int .i64 (p.ch (1 + pz)).key, .bool true]) ∧ Below wx.heap.size wx w') := fun n' e => by subst e; exact Child_key hS.pk (by rw [hS.pd]; omega) (by omega) (by omega)
      have HC2 : Hid (∀ n', n' = 1 + pz → ∀ wx, Calls Try.prog 8 #[.int .i64 q.key, .int .i64 n'] wx fun e w' => e = .returned (.tuple #[.int .i64 (q.ch (1 + pz)).key, .bool true]) ∧ Below wx.heap.size wx w') := fun n' e => by subst e; exact Child_key hS.qk (by rw [hS.qd]; omega) (by omega) (by omega)
      have HN : Hid (Stp t x y (p.ch (1 + pz)) (q.ch (1 + pz)) (td + 1 + i + 1)) := n1
      obtain ⟨ip, iq, f1, f2, f3, f4, f5, f6, f7⟩ := n2
      clear n1 hS
      generalize p.ch (1 + pz) = p' at *
      generalize q.ch (1 + pz) = q' at *
      generalize t.key = tk at *
      go_wp2_with fail
      refine (HPZ.out _).mono ?_
      rintro e w6 ⟨rfl, rfl⟩
      go_wp2_with fail
      refine (HC1.out _ (by omega) _).mono ?_
      rintro e w7 ⟨rfl, h7⟩
      replace hc := (h7.cell (p := ⟨g, o + i, none⟩) (block_lt_of_cell hc)).trans hc
      replace hNr := hNr.kept h7
      replace h7 := below_then hBl h7
      go_wp2_with fail
      refine (HPZ.out _).mono ?_
      rintro e w8 ⟨rfl, rfl⟩
      go_wp2_with fail
      refine (HC2.out _ (by omega) _).mono ?_
      rintro e w9 ⟨rfl, h9⟩
      replace hNr := hNr.kept h9
      replace h9 := below_then h7 h9
      go_wp2_with fail
      refine (Ahead_any _ _ ip ix _).mono ?_
      rintro e w10 ⟨rfl, h10⟩
      replace hNr := hNr.kept h10
      replace h10 := below_then h9 h10
      go_wp2_with fail
      refine (Ahead_any _ _ ip iq _).mono ?_
      rintro e w11 ⟨rfl, h11⟩
      replace hNr := hNr.kept h11
      replace h11 := below_then h10 h11
      go_wp2_with fail
      refine (Ahead_any _ _ iq ip _).mono ?_
      rintro e w12 ⟨rfl, h12⟩
      replace hNr := hNr.kept h12
      replace h12 := below_then h11 h12
      go_wp2_with fail
      refine (Ahead_any _ _ ip iy _).mono ?_
      rintro e w13 ⟨rfl, h13⟩
      replace hNr := hNr.kept h13
      replace h13 := below_then h12 h13
      go_wp2_with fail
      refine (Ahead_any _ _ ix iq _).mono ?_
      rintro e w14 ⟨rfl, h14⟩
      replace hNr := hNr.kept h14
      replace h14 := below_then h13 h14
      go_wp2_with fail
      refine (Ahead_any _ _ iq iy _).mono ?_
      rintro e w15 ⟨rfl, h15⟩
      replace hNr := hNr.kept h15
      replace h15 := below_then h14 h15
      go_wp2_with fail
      refine (Ahead_any _ _ iq it _).mono ?_
      rintro e w16 ⟨rfl, h16⟩
      replace hNr := hNr.kept h16
      replace h16 := below_then h15 h16
      go_wp2_with fail
      go_roundw
      case rel => exact ⟨i + 1, p', q', by omega, HN.out, rfl, rfl, by go_num, h16, hNr⟩
      case measure => simp [intOf]; omega
    · clear hS
      go_wp2_with fail
      refine (Ahead_any _ _ ix iy _).mono ?_
      rintro e w6 ⟨rfl, h6⟩
      replace h6 := below_then hBl h6
      go_wp2_with fail
      refine (awake_any _).mono ?_
      rintro e w7 ⟨rfl, h7⟩
      replace h7 := below_then h6 h7
      go_wp2_with fail
      go_ret
      exact ⟨rfl, h7⟩
end Go.Proofs.Ytbmndicocdlhdaa
