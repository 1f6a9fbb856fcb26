/-
  Helpers: Dec.
-/
import Derived.Test.YtdpagipbaddnfaaDoorAsmTextsBun28
import Derived.Test.YtdpagipbaddnfaaDoorAsmTextsBun27
import Derived.Deep.QuietTactic
import Derived.BigQuiet
namespace Go.Proofs.YtdpagipbaddnfaaDoor
open Go.RowKit L3

theorem drew_below {w w1 : World} (h : ∃ m, w1 = w.drewN m) : Below w.heap.size w w1 := by
  obtain ⟨m, rfl⟩ := h
  exact C2.below_drewN (Below.refl _ _) m
theorem byteOf_dig (k : Nat) (hk : k < 10) : L3.byteOf ((k : Int) + 48) = UInt8.ofNat (48 + k) := by
  unfold L3.byteOf
  congr 1
  omega
theorem decN_len : ∀ (n : Nat), n < 10000000 → (decN n).length ≤ 7 := by
  intro n hn
  have h : ∀ (k n : Nat), n < 10 ^ (k + 1) → (decN n).length ≤ k + 1 := by
    intro k
    induction k with
    | zero => intro n hn; rw [decN, if_pos (by simpa using hn)]; simp
    | succ k ih =>
      intro n hn
      rw [decN]
      split
      · simp
      · have := ih (n / 10) (by rw [Nat.pow_succ] at hn; omega)
        simp
        omega
  exact h 6 n (by simpa using hn)
set_option maxRecDepth 4000 in
theorem ldec_any : ∀ (n : Nat), n ≤ 100000 → ∀ (w : World), Calls Tryd.prog 19 #[.int .i64 (n : Int)] w fun e w' => e = .returned (.string (strB (decN n))) ∧ ∃ m, w' = w.drewN m := by
  intro n
  induction n using Nat.strongRecOn with
  | _ n ih =>
    intro hn w
    by_cases h10 : n < 10
    · have hd := fun W => dig_slice (n : Int) (by omega) (by omega) W
      rw [byteOf_dig n h10] at hd
      have e : decN n = [UInt8.ofNat (48 + n)] := by rw [decN, if_pos h10]
      rw [e]
      obtain ⟨S, hS⟩ : ∃ S, strB [UInt8.ofNat (48 + n)] = S := ⟨_, rfl⟩
      rw [hS] at hd ⊢
      clear hS e ih
      go_enter Tryd.func19, Tryd.ntmps19
      go_wp2_with fail
      go_ret
      exact ⟨rfl, 0, rfl⟩
    · have hq : (n : Int).tdiv 10 = ((n / 10 : Nat) : Int) := by rw [Int.tdiv_eq_ediv_of_nonneg (by omega)]; rfl
      have e : strB (decN n) = strB (decN (n / 10)) ++ strB [UInt8.ofNat (48 + n % 10)] := by
        rw [strB_append, decN, if_neg h10]
      have hd := fun W => dig_slice ((n % 10 : Nat) : Int) (by omega) (by omega) W
      rw [byteOf_dig (n % 10) (by omega)] at hd
      have hc := ih (n / 10) (by omega) (by omega)
      have hd10 : decide ((n : Int) < 10) = false := by simp; omega
      have hl1 := decN_len (n / 10) (by omega)
      have hs1 : (strB (decN (n / 10))).size = (decN (n / 10)).length := strB_size _
      have hs2 : (strB [UInt8.ofNat (48 + n % 10)]).size = 1 := rfl
      rw [e]
      obtain ⟨S, hS⟩ : ∃ S, strB (decN (n / 10)) = S := ⟨_, rfl⟩
      obtain ⟨S2, hS2⟩ : ∃ S, strB [UInt8.ofNat (48 + n % 10)] = S := ⟨_, rfl⟩
      rw [hS] at hs1 hc ⊢
      rw [hS2] at hs2 hd ⊢
      obtain ⟨m, hm⟩ : ∃ m, n / 10 = m := ⟨_, rfl⟩
      obtain ⟨r, hr⟩ : ∃ r, n % 10 = r := ⟨_, rfl⟩
      have hr' : (n : Int) % 10 = (r : Int) := by omega
      have hm' : (n : Int) / 10 = (m : Int) := by omega
      have hr9 : r < 10 := by omega
      rw [hm] at hc hs1 hl1 hq
      rw [hr] at hd
      clear hS hS2 e ih hm hr
      go_enter Tryd.func19, Tryd.ntmps19
      go_wp2_with fail
      go_quiet ((go_at_call 19; exact Calls.quiet_of (hc _)))
      go_wp2_with fail
      go_ret
      exact ⟨rfl, _, rfl⟩
end Go.Proofs.YtdpagipbaddnfaaDoor
