/-
  The reference's digits, how many operands, names.
-/
import Derived.Test.YtdpagipbaddnfaaDoorDec
import Derived.Test.YtdpagipbaddnfaaDoorTxtP
import Derived.Test.YtdpagipbaddnfaaDoorC2Ref
namespace Go.Proofs.YtdpagipbaddnfaaDoor
open Go.RowKit L3
open C2 (In Pr)

set_option maxRecDepth 4000 in
theorem rdecN_any : ∀ (n : Nat), n ≤ 4294967296 → ∀ (w : World), Calls Tryd.prog 37 #[.int .i64 (n : Int)] w fun e w' => e = .returned (.string (strB (decN n))) ∧ ∃ m, w' = w.drewN m := by
  intro n
  induction n using Nat.strongRecOn with
  | _ n ih =>
    intro hn w
    have hneg : decide ((n : Int) < 0) = false := by simp
    by_cases h10 : n < 10
    · have hd := fun W => dig_slice (n : Int) (by omega) (by omega) W
      rw [byteOf_dig n h10] at hd
      have e : decN n = [UInt8.ofNat (48 + n)] := by rw [decN, if_pos h10]
      rw [e]
      obtain ⟨S, hS⟩ : ∃ S, strB [UInt8.ofNat (48 + n)] = S := ⟨_, rfl⟩
      rw [hS] at hd ⊢
      clear hS e ih
      go_enter Tryd.func37, Tryd.ntmps37
      go_wp2_with fail
      go_ret
      exact ⟨rfl, 0, rfl⟩
    · have hq : (n : Int).tdiv 10 = ((n / 10 : Nat) : Int) := by rw [Int.tdiv_eq_ediv_of_nonneg (by omega)]; rfl
      have e : strB (decN n) = strB (decN (n / 10)) ++ strB [UInt8.ofNat (48 + n % 10)] := by
        rw [strB_append, decN, if_neg h10]
      have hd := fun W => dig_slice ((n % 10 : Nat) : Int) (by omega) (by omega) W
      rw [byteOf_dig (n % 10) (by omega)] at hd
      have hc := ih (n / 10) (by omega) (by omega)
      have hd10 : decide ((n : Int) < 10) = false := by simp; omega
      have hl1 := decN_len11 (n / 10) (by omega)
      have hs1 : (strB (decN (n / 10))).size = (decN (n / 10)).length := strB_size _
      have hs2 : (strB [UInt8.ofNat (48 + n % 10)]).size = 1 := rfl
      rw [e]
      obtain ⟨S, hS⟩ : ∃ S, strB (decN (n / 10)) = S := ⟨_, rfl⟩
      obtain ⟨S2, hS2⟩ : ∃ S, strB [UInt8.ofNat (48 + n % 10)] = S := ⟨_, rfl⟩
      rw [hS] at hs1 hc ⊢
      rw [hS2] at hs2 hd ⊢
      obtain ⟨m, hm⟩ : ∃ m, n / 10 = m := ⟨_, rfl⟩
      obtain ⟨r, hr⟩ : ∃ r, n % 10 = r := ⟨_, rfl⟩
      have hr' : (n : Int) % 10 = (r : Int) := by omega
      have hm' : (n : Int) / 10 = (m : Int) := by omega
      have hr9 : r < 10 := by omega
      rw [hm] at hc hs1 hl1 hq
      rw [hr] at hd
      clear hS hS2 e ih hm hr
      go_enter Tryd.func37, Tryd.ntmps37
      go_wp2_with fail
      go_quiet ((go_at_call 37; exact Calls.quiet_of (hc _)))
      go_wp2_with fail
      go_ret
      exact ⟨rfl, _, rfl⟩
set_option maxRecDepth 4000 in
theorem rdec_any (v : Int) (h1 : -4294967296 ≤ v) (h2 : v ≤ 4294967296) (w : World) : Calls Tryd.prog 37 #[.int .i64 v] w fun e w' => e = .returned (.string (strB (decB v))) ∧ ∃ m, w' = w.drewN m := by
  by_cases h0 : v < 0
  · have hn : decide (v < 0) = true := by simpa using h0
    obtain ⟨n, rfl⟩ : ∃ n : Nat, v = -(n : Int) := ⟨v.natAbs, by omega⟩
    have hc := rdecN_any n (by omega) w
    have e : strB (decB (-(n : Int))) = ⟨#[45]⟩ ++ strB (decN n) := by
      unfold decB signL
      rw [if_pos h0]
      simp [Int.natAbs_neg]
      rfl
    have hs1 : (strB (decN n)).size = (decN n).length := strB_size _
    have hl1 := decN_len11 n (by omega)
    rw [e]
    obtain ⟨S, hS⟩ : ∃ S, strB (decN n) = S := ⟨_, rfl⟩
    rw [hS] at hs1 hc ⊢
    clear hS e
    go_enter Tryd.func37, Tryd.ntmps37
    go_wp2_with fail
    refine hc.mono ?_
    rintro e w1 ⟨rfl, m, rfl⟩
    go_wp2_with fail
    go_ret
    exact ⟨rfl, _, rfl⟩
  · obtain ⟨n, rfl⟩ : ∃ n : Nat, v = (n : Int) := ⟨v.natAbs, by omega⟩
    have e : decB (n : Int) = decN n := by simp [decB, signL]
    rw [e]
    exact rdecN_any n (by omega) w
/-- how many of the first i are not 0 -/
def cntK (k0 k1 k2 : Int) (i : Nat) : Int := (if 0 < i ∧ 0 < k0 then 1 else 0) + (if 1 < i ∧ 0 < k1 then 1 else 0) + (if 2 < i ∧ 0 < k2 then 1 else 0)
theorem cnt_ops (o : Nat) (h1 : 1 ≤ o) (h2 : o ≤ 15) : cntK (C2.kindOf (o : Int) 0) (C2.kindOf (o : Int) 1) (C2.kindOf (o : Int) 2) 3 = opsOf o := by
  have : ∀ o : Nat, o < 16 → 1 ≤ o → cntK (C2.kindOf (o : Int) 0) (C2.kindOf (o : Int) 1) (C2.kindOf (o : Int) 2) 3 = opsOf o := by decide
  exact this o (by omega) h1
theorem cnt_bd (k0 k1 k2 : Int) (i : Nat) : 0 ≤ cntK k0 k1 k2 i ∧ cntK k0 k1 k2 i ≤ 3 := by
  unfold cntK
  split <;> split <;> split <;> omega
def kAt (k0 k1 k2 : Int) (i : Nat) : Int := if i = 0 then k0 else if i = 1 then k1 else k2
theorem cnt_step (k0 k1 k2 : Int) (i : Nat) (h : i < 3) : cntK k0 k1 k2 (i + 1) = cntK k0 k1 k2 i + if 0 < kAt k0 k1 k2 i then 1 else 0 := by
  unfold cntK kAt
  rcases (by omega : i = 0 ∨ i = 1 ∨ i = 2) with rfl | rfl | rfl <;> simp
set_option maxRecDepth 4000 in
theorem many_any (o : Nat) (h1 : 1 ≤ o) (h2 : o ≤ 15) (w : World) : Calls Tryd.prog 39 #[.int .i64 (o : Int)] w fun e w' => e = .returned (.int .i64 (opsOf o)) ∧ Below w.heap.size w w' := by
  have hk := C2.kinds_any (o : Int) w
  rw [← cnt_ops o h1 h2]
  generalize C2.kindOf (o : Int) 0 = k0 at hk ⊢
  generalize C2.kindOf (o : Int) 1 = k1 at hk ⊢
  generalize C2.kindOf (o : Int) 2 = k2 at hk ⊢
  go_enter Tryd.func39, Tryd.ntmps39
  go_wp2_with fail
  refine hk.mono ?_
  rintro e w1 ⟨rfl, hb⟩
  have hx : (w1.alloc (.cells #[.int .i64 k0, .int .i64 k1, .int .i64 k2] 87)).heap[w1.heap.size]? = some (.cells #[.int .i64 k0, .int .i64 k1, .int .i64 k2] 87 (0, 0)) := heap_alloc_new _ _
  have hb2 := below_alloc hb (.cells #[.int .i64 k0, .int .i64 k1, .int .i64 k2] 87)
  have HB : Hid (Below w.heap.size w (w1.alloc (.cells #[.int .i64 k0, .int .i64 k1, .int .i64 k2] 87))) := hb2
  clear hk hb hb2
  go_wp2_with fail
  generalize hW0 : w1.alloc (.cells #[.int .i64 k0, .int .i64 k1, .int .i64 k2] 87) = W0 at *
  clear hW0
  go_loop [3, 5] (fun nv iv => ∃ i : Nat, i ≤ 3 ∧ iv = .int .i64 i ∧ nv = .int .i64 (cntK k0 k1 k2 i)) (fun _ iv => 3 - (intOf iv).toNat)
  case atStart => exact ⟨0, by omega, rfl, by simp [cntK]⟩
  case round =>
    obtain ⟨i, hi, rfl, rfl⟩ := hrel
    have hbd := cnt_bd k0 k1 k2 i
    by_cases hlt : i < 3
    · have hc : W0.cell? ⟨w1.heap.size, i, none⟩ = some (.int .i64 (kAt k0 k1 k2 i)) := by
        rw [cell_of_row W0 _ i _ _ _ hx]
        rcases (by omega : i = 0 ∨ i = 1 ∨ i = 2) with rfl | rfl | rfl <;> rfl
      have hst := cnt_step k0 k1 k2 i hlt
      generalize kAt k0 k1 k2 i = kk at hc hst
      have hg := block_lt_of_cell hc
      by_cases hp : 0 < kk
      · have hd : decide (0 < kk) = true := by simpa using hp
        rw [if_pos hp] at hst
        have HST : Hid (cntK k0 k1 k2 (i + 1) = cntK k0 k1 k2 i + 1) := hst
        clear hst hx
        generalize cntK k0 k1 k2 i = cc at *
        go_wp2_with fail
        go_round
        case rel => exact ⟨i + 1, by omega, by go_num, by rw [HST.out]⟩
        case measure => simp [intOf]; omega
      · have hd : decide (0 < kk) = false := by simpa using hp
        rw [if_neg hp] at hst
        have HST : Hid (cntK k0 k1 k2 (i + 1) = cntK k0 k1 k2 i + 0) := hst
        clear hst hx
        generalize cntK k0 k1 k2 i = cc at *
        go_wp2_with fail
        go_round
        case rel => exact ⟨i + 1, by omega, by go_num, by rw [HST.out, Int.add_zero]⟩
        case measure => simp [intOf]; omega
    · obtain rfl : i = 3 := by omega
      go_wp2_with fail
      go_ret
      exact ⟨rfl, HB.out⟩
end Go.Proofs.YtdpagipbaddnfaaDoor
