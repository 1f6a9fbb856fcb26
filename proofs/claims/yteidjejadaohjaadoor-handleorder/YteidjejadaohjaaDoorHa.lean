/-
  Names of memory, plainly; the package's tables; Size.
-/
import Derived.Test.YteidjejadaohjaaDoorRows
import Derived.WalkKit
import Derived.Below
import Derived.Deep.QuietTactic
import Derived.BigQuiet
import Derived.Laws.BitsLemmas
namespace Go.Proofs.YteidjejadaohjaaDoor
open Go.RowKit

theorem ret_i64 {a b : Int} (h : a = b) : Ending.returned (.int .i64 a) = .returned (.int .i64 b) := by rw [h]
/-- what may be packed -/
def okP (a b c : Int) : Prop := 0 ≤ a ∧ a ≤ 65535 ∧ 1 ≤ b ∧ b ≤ 1073741823 ∧ 0 ≤ c ∧ c ≤ 3
instance (a b c : Int) : Decidable (okP a b c) := by unfold okP; infer_instance
def packV (a b c : Int) : Int := 1125899906842624 + a * 4294967296 + b * 4 + c
def packF (a b c : Int) : Int := if okP a b c then packV a b c else 0
theorem packF_ok {a b c : Int} (h : okP a b c) : packF a b c = packV a b c := if_pos h
theorem packF_no {a b c : Int} (h : ¬ okP a b c) : packF a b c = 0 := if_neg h
def opA (h : Int) : Int := h / 4294967296 % 65536
def opB (h : Int) : Int := h / 4 % 1073741824
def opC (h : Int) : Int := h % 4
/-- is a name -/
def isH (h : Int) : Prop := ∃ a b c, okP a b c ∧ h = packV a b c
theorem open_pack {a b c : Int} (h : okP a b c) : opA (packV a b c) = a ∧ opB (packV a b c) = b ∧ opC (packV a b c) = c := by
  obtain ⟨h1, h2, h3, h4, h5, h6⟩ := h
  unfold opA opB opC packV
  omega
theorem pack_pos {a b c : Int} (h : okP a b c) : 1125899906842624 < packV a b c ∧ packV a b c < 1407374883553280 := by
  obtain ⟨h1, h2, h3, h4, h5, h6⟩ := h
  unfold packV
  omega
theorem pack_inj {a b c a' b' c' : Int} (h : okP a b c) (h' : okP a' b' c') (e : packV a b c = packV a' b' c') : a = a' ∧ b = b' ∧ c = c' := by
  obtain ⟨x1, x2, x3⟩ := open_pack h
  obtain ⟨y1, y2, y3⟩ := open_pack h'
  rw [e] at x1 x2 x3
  exact ⟨x1.symm.trans y1, x2.symm.trans y2, x3.symm.trans y3⟩
theorem not_name {h : Int} (hn : ¬ isH h) : packF (opA h) (opB h) (opC h) = 0 ∨ packF (opA h) (opB h) (opC h) ≠ h := by
  by_cases ho : okP (opA h) (opB h) (opC h)
  · refine .inr fun e => hn ⟨_, _, _, ho, ?_⟩
    rw [packF_ok ho] at e
    exact e.symm
  · exact .inl (packF_no ho)
theorem not_name_bd {h : Int} (hb : h ≤ 1125899906842624 ∨ 1407374883553280 ≤ h) : ¬ isH h := by
  rintro ⟨a, b, c, ho, rfl⟩
  have := pack_pos ho
  omega
theorem not_name_gen {a c : Int} (h1 : 0 ≤ c) (h2 : c ≤ 3) : ¬ isH (1125899906842624 + a * 4294967296 + c) := by
  rintro ⟨a', b', c', ho, e⟩
  obtain ⟨k1, k2, k3, k4, k5, k6⟩ := ho
  unfold packV at e
  omega
/-- a class's size -/
def szT : List Int := [8, 16, 32, 64]
def sizeF (c : Int) : Int := if 0 ≤ c ∧ c < 4 then szT.getD c.toNat 0 else 0
def fdT : List Int := [32, 0, 65535, 2, 1, 1073741823, 0, 0, 3]
structure HTab (w : World) : Prop where
  sz : ∀ i : Nat, i < 4 → w.cell? ⟨1, i, none⟩ = some (.int .i64 (szT.getD i 0))
  fd : ∀ i : Nat, i < 9 → w.cell? ⟨0, i, none⟩ = some (.int .i64 (fdT.getD i 0))
theorem HTab.pos {w : World} (h : HTab w) : 1 < w.heap.size ∧ 0 < w.heap.size := ⟨block_lt_of_cell (h.sz 0 (by omega)), block_lt_of_cell (h.fd 0 (by omega))⟩
theorem HTab.below {w w' : World} (h : HTab w) (hb : Below w.heap.size w w') : HTab w' :=
  ⟨fun i hi => by rw [hb.cell (p := ⟨1, i, none⟩) h.pos.1]; exact h.sz i hi, fun i hi => by rw [hb.cell (p := ⟨0, i, none⟩) h.pos.2]; exact h.fd i hi⟩
theorem HTab.alloc {w : World} (h : HTab w) (o : Obj) : HTab (w.alloc o) := h.below ((Below.refl _ _).alloc (Nat.le_refl _) o)
theorem HTab.drewN {w : World} (h : HTab w) (n : Nat) : HTab (w.drewN n) := ⟨h.sz, h.fd⟩
theorem sizeF_no {c : Int} (h : c < 0 ∨ 4 ≤ c) : sizeF c = 0 := by unfold sizeF; rw [if_neg (by omega)]
theorem sizeF_yes {c : Int} (h1 : 0 ≤ c) (h2 : c < 4) : sizeF c = szT.getD c.toNat 0 := by unfold sizeF; rw [if_pos ⟨h1, h2⟩]
theorem Size_any (c : Int) (w : World) (hT : HTab w) : Calls Tryd.prog 10 #[.int .i64 c] w fun e w' => e = .returned (.int .i64 (sizeF c)) ∧ w' = w := by
  by_cases h0 : c < 0
  · have hd : decide (c < 0) = true := by simpa using h0
    rw [sizeF_no (.inl h0)]
    go_enter Tryd.func10, Tryd.ntmps10
    go_wp2
    go_ret
    exact ⟨rfl, rfl⟩
  · have hd : decide (c < 0) = false := by simpa using h0
    by_cases h4 : 4 ≤ c
    · have hd4 : decide (4 ≤ c) = true := by simpa using h4
      rw [sizeF_no (.inr h4)]
      go_enter Tryd.func10, Tryd.ntmps10
      go_wp2
      go_ret
      exact ⟨rfl, rfl⟩
    · have hd4 : decide (4 ≤ c) = false := by simpa using h4
      have hc := hT.sz c.toNat (by omega)
      rw [sizeF_yes (by omega) (by omega)]
      go_enter Tryd.func10, Tryd.ntmps10
      go_wp2
      go_ret
      exact ⟨rfl, rfl⟩
/-- both parts of a number side by side -/
theorem or_low (i : Nat) (x y : Int) (hx₀ : 0 ≤ x) (hx : x % 2 ^ i = 0) (hx₁ : x < 2 ^ 62) (hy₀ : 0 ≤ y) (hy : y < 2 ^ i) (hy₁ : y < 2 ^ 62) : bits .or .i64 x y = x + y :=
  bits_join .i64 62 (by decide) (fun n h0 h1 => by rw [IntKind.wrap_i64]; omega) i x y hx₀ hx hx₁ hy₀ hy hy₁
theorem and_mask (j : Nat) (m : Int) (n : Int) (hj : j ≤ 62) (hm : m = 2 ^ j - 1) : bits .and .i64 n m = n % 2 ^ j := by
  have hp : (2 : Nat) ^ j ≤ 2 ^ 62 := Nat.pow_le_pow_right (by omega) hj
  have hp0 : 0 < (2 : Nat) ^ j := Nat.pow_pos (by omega)
  have e : (2 : Int) ^ j = ((2 ^ j : Nat) : Int) := by simp
  have hm2 : (BitVec.ofInt 64 m).toNat = 2 ^ j - 1 := by rw [BitVec.toNat_ofInt, hm, e]; omega
  have key : (BitVec.ofInt 64 n &&& BitVec.ofInt 64 m).toNat = (n % ((2 ^ 64 : Nat) : Int)).toNat % 2 ^ j := by
    rw [BitVec.toNat_and, BitVec.toNat_ofInt, hm2, Nat.and_two_pow_sub_one_eq_mod]
  show IntKind.i64.wrap ((BitVec.ofInt 64 n &&& BitVec.ofInt 64 m).toNat : Nat) = n % 2 ^ j
  have hd : ((2 ^ j : Nat) : Int) ∣ ((2 ^ 64 : Nat) : Int) := by
    refine Int.natCast_dvd_natCast.2 (Nat.pow_dvd_pow 2 (by omega))
  have h1 : (((n % ((2 ^ 64 : Nat) : Int)).toNat % 2 ^ j : Nat) : Int) = n % ((2 ^ j : Nat) : Int) := by
    rw [Int.natCast_emod, Int.toNat_of_nonneg (Int.emod_nonneg _ (by decide)), Int.emod_emod_of_dvd _ hd]
  rw [key, h1, IntKind.wrap_i64, e]
  have b1 := Int.emod_nonneg n (b := ((2 ^ j : Nat) : Int)) (by omega)
  have b2 := Int.emod_lt_of_pos n (b := ((2 ^ j : Nat) : Int)) (by omega)
  have b3 : ((2 ^ j : Nat) : Int) ≤ ((2 ^ 62 : Nat) : Int) := by exact_mod_cast hp
  have b4 : ((2 ^ 62 : Nat) : Int) = 4611686018427387904 := by decide
  omega
theorem and65535 (n : Int) : bits .and .i64 n 65535 = n % 65536 := and_mask 16 _ n (by omega) (by decide)
theorem and1073741823 (n : Int) : bits .and .i64 n 1073741823 = n % 1073741824 := and_mask 30 _ n (by omega) (by decide)
theorem and3 (n : Int) : bits .and .i64 n 3 = n % 4 := and_mask 2 _ n (by omega) (by decide)
end Go.Proofs.YteidjejadaohjaaDoor
