/-
  The law LexAll: its walk.
-/
import Derived.Test.YtphkplliecfmjaaRefA
import Derived.BigQuiet
namespace Go.Proofs.Ytphkplliecfmjaa
open Go.RowKit

set_option maxHeartbeats 2000000 in
theorem all_walk (s : ByteArray) (w : World) : Calls Try.prog 3 #[.string s] w fun e w' => e = .returned (.bool true) ∧ Below w.heap.size w w' := by
  obtain ⟨sl, rfl⟩ : ∃ sl, s = strB sl := ⟨_, (strB_of s).symm⟩
  obtain ⟨A, xA, eA, hA⟩ : ∃ A xA eA, lexF sl = (A, xA, eA) := ⟨_, _, _, rfl⟩
  have HLA : Hid (lexF sl = (A, xA, eA)) := hA
  have lA := lexF_length sl
  rw [hA] at lA
  simp only at lA
  clear hA
  go_enter Try.func3, Try.ntmps3
  go_wp2_with fail
  refine (All_l (l := sl) rfl _).mono ?_
  rintro e w1 ⟨aa, ac, he, hSA, hb1⟩
  rw [HLA.out] at he hSA
  simp only at he hSA
  subst he
  go_wp2_with fail
  refine (RAll_any sl _).mono ?_
  rintro e w2 ⟨ba, bc, he, hSB, hb2'⟩
  rw [HLA.out] at he hSB
  simp only at he hSB
  subst he
  have HSA : Hid (SlT w2 (.slice aa A.length ac) A) := hSA.kept hb2'
  have HSB : Hid (SlT w2 (.slice ba A.length bc) A) := hSB
  have hb2 := below_then hb1 hb2'
  clear hSA hSB hb1 hb2' HLA
  go_wp2_with fail
  go_loopw [9] (fun iv wx => ∃ i : Nat, i ≤ A.length ∧ iv = .int .i64 i ∧ Below w2.heap.size w2 wx) (fun iv _ => A.length - (intOf iv).toNat)
  case atStart => exact ⟨0, by omega, rfl, Below.refl _ _⟩
  case round =>
    obtain ⟨i, hi, rfl, hBl⟩ := hrel
    by_cases hlt : i < A.length
    · obtain ⟨g, f, rfl, tA⟩ := (HSA.out.kept hBl).at hlt
      obtain ⟨g2, f2, rfl, tB⟩ := (HSB.out.kept hBl).at hlt
      obtain ⟨u1, u2, u3, u4⟩ := tA
      obtain ⟨v1, v2, v3, v4⟩ := tB
      generalize A[i] = tk at *
      have HB2 : Hid (∀ n : Nat, Below w2.heap.size w2 (World.drewN _ n)) := fun n => drawsL hBl n
      clear hBl
      go_wp2_with fail
      go_quiet (fail)
      go_wp2_with fail
      go_roundw
      case rel => exact ⟨i + 1, by omega, by go_num, HB2.out _⟩
      case measure => simp [intOf]; omega
    · obtain rfl : i = A.length := by omega
      have hb4 := below_then hb2 hBl
      clear hBl
      go_wp2_with fail
      refine (awake_any _).mono ?_
      rintro e w5 ⟨rfl, hb'⟩
      have hb5 := below_then hb4 hb'
      go_wp2_with fail
      go_ret
      exact ⟨rfl, hb5⟩
end Go.Proofs.Ytphkplliecfmjaa
