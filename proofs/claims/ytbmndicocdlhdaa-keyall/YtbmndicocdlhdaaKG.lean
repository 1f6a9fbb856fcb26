/-
  The document's example, a place below a number, and keys by numbers: what the laws on keys share.
-/
import Derived.Test.YtbmndicocdlhdaaKF
import Derived.ProofKit
import Derived.OpenShut
namespace Go.Proofs.Ytbmndicocdlhdaa
open Go.ChangeShapes Go.WideShapes Go.ChangeAt Go.RowKit

/-- numbers that lie in a row -/
def NAt (w : World) (ad : Option Addr) (len : Nat) : Prop := ∀ k, k < len → ∃ b o z, ad = some ⟨b, o, none⟩ ∧ w.cell? ⟨b, o + k, none⟩ = some (.int .i64 z)
theorem NAt.kept {w w' : World} {ad : Option Addr} {len : Nat} (h : NAt w ad len) (hb : Below w.heap.size w w') : NAt w' ad len := fun k hk => by
  obtain ⟨b, o, z, h1, h3⟩ := h k hk
  exact ⟨b, o, z, h1, (hb.cell (p := ⟨b, o + k, none⟩) (block_lt_of_cell h3)).trans h3⟩
theorem cellsInt : Try.prog.cellsOf 3 = 1 := by kernel_rfl
theorem nums_in {H : Type} {enc : TypeId × Value → H} {W : World} {v : Value} {d : DataW H} {ps : List MemPlace} (hv : ∃ a len cap, v = .slice a len cap) (h : DataW.Trod enc Try.prog W 0 (fun _ => true) true 31 v d ps) : ∃ ad len cap, v = .slice ad len cap ∧ len ≤ 9223372036854775807 ∧ NAt W ad len := by
  obtain ⟨a0, len, cap, rfl⟩ := hv
  obtain ⟨fuel, hf⟩ := h
  rcases open_ints Try.underlying31 Try.underlying3 cellsInt hf with ⟨hcs, -⟩ | ⟨a, len', cap', zs, hcs, -, hl, hm, hz, -, hcell, -⟩
  · simp [Value.cells] at hcs
    obtain ⟨rfl, rfl, rfl⟩ := hcs
    exact ⟨none, 0, 0, rfl, by omega, fun k hk => by omega⟩
  · simp [Value.cells] at hcs
    obtain ⟨rfl, rfl, rfl⟩ := hcs
    simp at hz
    unfold maxLen at hm
    refine ⟨some a, len, cap, rfl, by omega, fun k hk => ?_⟩
    obtain ⟨b, off, rfl, hc⟩ := ints_at hcell (by omega)
    exact ⟨b, off, _, rfl, hc k (by omega)⟩
theorem wf_in {n : Int} (h : (Lit.int .i64 n).wf = true) : inI n := by
  simp only [Lit.wf, Bool.and_eq_true, decide_eq_true_eq] at h
  simp [IntKind.min, IntKind.max, IntKind.bits, IntKind.signed] at h
  exact ⟨by omega, by omega⟩
/-- any number as one from 0 to n - 1 -/
def placeI (v n : Int) : Int := v % n
theorem placeI_bd (v n : Int) (h : 0 < n) : 0 ≤ placeI v n ∧ placeI v n < n := ⟨Int.emod_nonneg _ (by omega), Int.emod_lt_of_pos _ h⟩
theorem tmod_bd {v n : Int} (h1 : 0 < n) : -n < v.tmod n ∧ v.tmod n < n := by
  have h := Int.natAbs_tmod v n
  have h2 : v.natAbs % n.natAbs < n.natAbs := Nat.mod_lt _ (by omega)
  omega
theorem place_neg {v n : Int} (h1 : 0 < n) (h : v.tmod n < 0) : v.tmod n + n = placeI v n := by
  unfold placeI
  have e := Int.tmod_add_mul_tdiv v n
  have b := tmod_bd (v := v) h1
  rw [← Int.emod_emod_of_dvd v (Int.dvd_refl n)]
  have : v % n = (v.tmod n + n) % n := by
    rw [Int.add_emod_right]
    conv => lhs; rw [← e]
    rw [Int.add_mul_emod_self_left]
  rw [this, Int.emod_emod_of_dvd _ (Int.dvd_refl n), Int.emod_eq_of_lt (by omega) (by omega)]
theorem place_pos {v n : Int} (h1 : 0 < n) (h : ¬ v.tmod n < 0) : v.tmod n = placeI v n := by
  unfold placeI
  have e := Int.tmod_add_mul_tdiv v n
  have b := tmod_bd (v := v) h1
  have : v % n = v.tmod n % n := by
    conv => lhs; rw [← e]
    rw [Int.add_mul_emod_self_left]
  rw [this, Int.emod_eq_of_lt (by omega) (by omega)]
theorem place_any (v n : Int) (w : World) (h1 : 0 < n) (h2 : n ≤ 2147483648) : Calls Try.prog 22 #[.int .i64 v, .int .i64 n] w fun e w' => e = .returned (.int .i64 (placeI v n)) ∧ w' = w := by
  have hn : ¬ n = 0 := by omega
  have hn2 : (n == 0) = false := by simp [hn]
  have hb := tmod_bd (v := v) h1
  have hw : wrap64 (v.tmod n) = v.tmod n := by unfold wrap64; omega
  by_cases h : v.tmod n < 0
  · have hd : decide (v.tmod n < 0) = true := by simpa using h
    go_enter Try.func22, Try.ntmps22
    go_wp2
    go_ret
    exact ⟨ret_i64 (place_neg h1 h), rfl⟩
  · have hd : decide (v.tmod n < 0) = false := by simpa using h
    go_enter Try.func22, Try.ntmps22
    go_wp2
    go_ret
    exact ⟨ret_i64 (place_pos h1 (by omega)), rfl⟩
theorem awake_c : chK 1125899906842624 1 = 1126999418470400 ∧ chO 1125899906842624 1 = true ∧ unB 1126999418470400 1125899906842624 = true ∧ ahB 1126999418470400 1125899906842624 = true ∧ dpN 1126999418470400 = 1 := by decide +kernel
theorem awake_any (w : World) : Calls Try.prog 20 #[] w fun e w' => e = .returned (.bool true) ∧ Below w.heap.size w w' := by
  obtain ⟨c1, c2, c3, c4, c5⟩ := awake_c
  have h1 : ∀ wx, Calls Try.prog 8 #[.int .i64 1125899906842624, .int .i64 1] wx fun e w' => e = .returned (.tuple #[.int .i64 1126999418470400, .bool true]) ∧ Below wx.heap.size wx w' := fun wx => by
    have := Child_any 1125899906842624 1 ⟨by omega, by omega⟩ wx
    unfold ChPost at this
    rw [c1, c2] at this
    exact this
  have h2 : ∀ wx, Calls Try.prog 16 #[.int .i64 1126999418470400, .int .i64 1125899906842624] wx fun e w' => e = .returned (.bool true) ∧ Below wx.heap.size wx w' := fun wx => by
    have := Under_any 1126999418470400 1125899906842624 ⟨by omega, by omega⟩ ⟨by omega, by omega⟩ wx
    rw [c3] at this
    exact this
  have h3 : ∀ wx, Calls Try.prog 18 #[.int .i64 1126999418470400, .int .i64 1125899906842624] wx fun e w' => e = .returned (.bool true) ∧ Below wx.heap.size wx w' := fun wx => by
    have := Ahead_any 1126999418470400 1125899906842624 ⟨by omega, by omega⟩ ⟨by omega, by omega⟩ wx
    rw [c4] at this
    exact this
  have h4 : ∀ wx, Calls Try.prog 14 #[.int .i64 1126999418470400] wx fun e w' => e = .returned (.int .i64 1) ∧ Below wx.heap.size wx w' := fun wx => by
    have := Depth_any 1126999418470400 ⟨by omega, by omega⟩ wx
    rw [c5] at this
    exact this
  have H1 : Hid _ := h1
  have H2 : Hid _ := h2
  have H3 : Hid _ := h3
  have H4 : Hid _ := h4
  clear h1 h2 h3 h4 c1 c2 c3 c4 c5
  go_enter Try.func20, Try.ntmps20
  go_wp2_with fail
  refine (H1.out _).mono ?_
  rintro e w1 ⟨rfl, hb1⟩
  go_wp2_with fail
  refine (H2.out _).mono ?_
  rintro e w2 ⟨rfl, hb2⟩
  replace hb2 := below_then hb1 hb2
  go_wp2_with fail
  refine (H3.out _).mono ?_
  rintro e w3 ⟨rfl, hb3⟩
  replace hb3 := below_then hb2 hb3
  go_wp2_with fail
  refine (H4.out _).mono ?_
  rintro e w4 ⟨rfl, hb4⟩
  replace hb4 := below_then hb3 hb4
  go_wp2_with fail
  go_ret
  exact ⟨rfl, hb4⟩
/-! ### calls at keys -/
theorem inI_key {t : Ky} (h : t.Ok) : inI t.key := inI_ok (ok_key h)
theorem Child_key {t : Ky} (h : t.Ok) {n : Int} (hd : t.dep < 5) (h1 : 1 ≤ n) (h2 : n ≤ 1000) (w : World) : Calls Try.prog 8 #[.int .i64 t.key, .int .i64 n] w fun e w' => e = .returned (.tuple #[.int .i64 (t.ch n).key, .bool true]) ∧ Below w.heap.size w w' := by
  have := Child_any t.key n (inI_key h) w
  unfold ChPost at this
  rw [chK_key h hd h1 h2, chO_key h, decide_eq_true ⟨hd, h1, h2⟩] at this
  exact this
theorem Child_none {k : Int} (hk : inI k) {n : Int} (h : chO k n = false) (w : World) : Calls Try.prog 8 #[.int .i64 k, .int .i64 n] w fun e w' => e = .returned (.tuple #[.int .i64 0, .bool false]) ∧ Below w.heap.size w w' := by
  have := Child_any k n hk w
  unfold ChPost at this
  rw [chO_no h, h] at this
  exact this
/-- what make1 leaves: a key so deep -/
def MkPost (d : Nat) (w : World) (e : Ending) (w' : World) : Prop := ∃ t : Ky, t.Ok ∧ t.dep = d ∧ e = .returned (.int .i64 t.key) ∧ Below w.heap.size w w'
set_option maxHeartbeats 1000000 in
theorem make_any (ad : Option Addr) (len cap : Nat) (hl : len ≤ 9223372036854775807) (w : World) (hA : NAt w ad len) : Calls Try.prog 21 #[.slice ad len cap] w (MkPost (min len 5) w) := by
  go_enter Try.func21, Try.ntmps21
  go_wp2_with fail
  go_loopw [3, 4] (fun kv iv wr => ∃ (i : Nat) (t : Ky), t.Ok ∧ t.dep = i ∧ i ≤ len ∧ i ≤ 5 ∧ iv = .int .i64 i ∧ kv = .int .i64 t.key ∧ Below w.heap.size w wr) (fun _ iv _ => 5 - (intOf iv).toNat)
  case atStart => exact ⟨0, root, root_ok, rfl, by omega, by omega, rfl, rfl, Below.refl _ _⟩
  case round =>
    obtain ⟨i, t, ht, hd, hil, hi5, rfl, rfl, hB⟩ := hrel
    by_cases h5 : i < 5 ∧ i < len
    · obtain ⟨h5, hlt⟩ := h5
      obtain ⟨b, o, z, rfl, hc⟩ := hA.kept hB i hlt
      obtain ⟨p1, p2⟩ := placeI_bd z 1000 (by omega)
      have HPL : Hid (∀ wx, Calls Try.prog 22 #[.int .i64 z, .int .i64 1000] wx fun e w' => e = .returned (.int .i64 (placeI z 1000)) ∧ w' = wx) := fun wx => place_any z 1000 wx (by omega) (by omega)
      generalize placeI z 1000 = pv at *
      obtain ⟨c1, c2, -⟩ := ch_facts ht (n := 1 + pv) (by omega) (by omega) (by omega)
      have HC : Hid (∀ wx, Calls Try.prog 8 #[.int .i64 t.key, .int .i64 (1 + pv)] wx fun e w' => e = .returned (.tuple #[.int .i64 (t.ch (1 + pv)).key, .bool true]) ∧ Below wx.heap.size wx w') := fun wx => Child_key ht (by omega) (by omega) (by omega) wx
      have HK : Hid ((t.ch (1 + pv)).Ok ∧ (t.ch (1 + pv)).dep = i + 1) := ⟨c1, by rw [c2, hd]⟩
      clear c1 c2 hd ht hA
      generalize t.ch (1 + pv) = s at *
      generalize t.key = tk at *
      go_wp2_with fail
      refine (HPL.out _).mono ?_
      rintro e w1 ⟨rfl, rfl⟩
      go_wp2_with fail
      refine (HC.out _).mono ?_
      rintro e w2 ⟨rfl, hb2⟩
      replace hb2 := below_then hB hb2
      go_wp2_with fail
      go_roundw
      case rel => exact ⟨i + 1, s, HK.out.1, HK.out.2, by omega, by omega, by go_num, rfl, hb2⟩
      case measure => simp [intOf]; omega
    · have hm : i = min len 5 := by omega
      have HP : Hid (MkPost (min len 5) w (.returned (.int .i64 t.key)) wr) := ⟨t, ht, by rw [hd, hm], rfl, hB⟩
      clear hd ht hm
      generalize t.key = tk at *
      by_cases h6 : i < len
      · have h7 : ¬ i < 5 := by omega
        clear h5
        go_wp2_with fail
        go_ret
        exact HP.out
      · clear h5
        go_wp2_with fail
        go_ret
        exact HP.out
end Go.Proofs.Ytbmndicocdlhdaa
