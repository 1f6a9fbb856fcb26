/-
  Numbers that are taken one by one (package magpielaw00's L): what Next and Ins answer.
-/
import Derived.Test.YtdpagipbaddnfaaDoorC2Awake
namespace Go.Proofs.YtdpagipbaddnfaaDoor.C2
open Go.RowKit

/-- an L whose numbers lie below block B -/
structure LAt (B : Nat) (w : World) (ad : Option Addr) (len : Nat) : Prop where
  cells : ∀ k, k < len → ∃ b o z, ad = some ⟨b, o, none⟩ ∧ b < B ∧ w.cell? ⟨b, o + k, none⟩ = some (.int .i64 z)
def LN (B : Nat) (w : World) (g : Nat) : Prop := ∃ ad len cap, w.heap[g]? = some (.cells #[.slice ad len cap] 91 (0, 0)) ∧ len ≤ cap ∧ cap ≤ 9223372036854775807 ∧ LAt B w ad len
theorem LAt.kept {B : Nat} {w w' : World} {ad : Option Addr} {len : Nat} (h : LAt B w ad len) (hb : Below B w w') : LAt B w' ad len := ⟨fun k hk => by
  obtain ⟨b, o, z, h1, h2, h3⟩ := h.cells k hk
  exact ⟨b, o, z, h1, h2, (hb.cell (p := ⟨b, o + k, none⟩) h2).trans h3⟩⟩
theorem set_grown (w : World) (g : Nat) (u : Value) : w.grownBy (w.setCell ⟨g, 0, none⟩ u) (some g) := ⟨rfl, rfl, rfl, by simp [World.setCell], fun k _ hne => Below.heap_setCell _ _ _ _ (fun e => hne (by rw [e]))⟩
theorem LN.set {B : Nat} {w : World} {g : Nat} {v0 : Value} {ad : Option Addr} {len cap : Nat} (hg : w.heap[g]? = some (.cells #[v0] 91 (0, 0))) (hB : B ≤ g) (h1 : len ≤ cap) (h2 : cap ≤ 9223372036854775807) (h : LAt B w ad len) : LN B (w.setCell ⟨g, 0, none⟩ (.slice ad len cap)) g :=
  ⟨ad, len, cap, one_setCell hg, h1, h2, h.kept ((Below.refl _ _).setCell hB _)⟩
theorem LN.kept {B : Nat} {w w' : World} {g : Nat} (h : LN B w g) (hb : Below B w w') (hg : w'.heap[g]? = w.heap[g]?) : LN B w' g := by
  obtain ⟨ad, len, cap, h1, h2, h3, h4⟩ := h
  exact ⟨ad, len, cap, hg.trans h1, h2, h3, h4.kept hb⟩
theorem LN.lt {B : Nat} {w : World} {g : Nat} (h : LN B w g) : g < w.heap.size := by
  obtain ⟨ad, len, cap, h1, -⟩ := h
  exact lt_of_block h1
set_option maxHeartbeats 400000 in
theorem next_any (B g : Nat) (m : Int) (w : World) (hL : LN B w g) (hB : B ≤ g) (h1 : 0 < m) (h2 : m ≤ 2147483648) :
    Calls Tryd.prog 40 #[.pointer (some ⟨g, 0, none⟩), .int .i64 m] w fun e w' => ∃ v, e = .returned (.int .i64 v) ∧ 0 ≤ v ∧ v < m ∧ w.grownBy w' (some g) ∧ LN B w' g := by
  obtain ⟨ad, len, cap, hg, hlc, hcm, hA⟩ := hL
  have c0 := cell_of_row w g 0 _ _ _ hg
  have f0 := frozen_of_row w g 0 _ _ hg
  simp at c0
  rcases Nat.eq_zero_or_pos len with rfl | hpos
  · have hz : (((0 : Nat) : Int) == 0) = true := by simp
    go_enter Tryd.func40, Tryd.ntmps40
    go_wp2
    go_ret
    exact ⟨0, rfl, by omega, by omega, World.grownBy.refl _ _, _, _, _, hg, hlc, hcm, hA⟩
  · have hz : ((len : Int) == 0) = false := by simp; omega
    obtain ⟨b, o, z, rfl, hbB, hc⟩ := hA.cells 0 hpos
    simp at hc
    have hpb := placeI_bd z m h1
    go_enter Tryd.func40, Tryd.ntmps40
    go_wp2_with (go_at_call 17; refine (place_any _ _ _ h1 h2).mono ?_; rintro e w' ⟨rfl, rfl⟩)
    all_goals go_ret
    · exact ⟨_, rfl, hpb.1, hpb.2, set_grown _ _ _, LN.set hg hB (by omega) (by omega) ⟨fun k hk => by omega⟩⟩
    · refine ⟨_, rfl, hpb.1, hpb.2, set_grown _ _ _, LN.set hg hB (by omega) (by omega) ⟨fun k hk => ?_⟩⟩
      obtain ⟨b', o', z', h1, h2, h3⟩ := hA.cells (k + 1) (by omega)
      simp only [Option.some.injEq, Addr.mk.injEq, and_true] at h1
      obtain ⟨rfl, rfl⟩ := h1
      exact ⟨b, o + 1, z', rfl, h2, by rw [Nat.add_assoc, Nat.add_comm 1 k]; exact h3⟩
end Go.Proofs.YtdpagipbaddnfaaDoor.C2