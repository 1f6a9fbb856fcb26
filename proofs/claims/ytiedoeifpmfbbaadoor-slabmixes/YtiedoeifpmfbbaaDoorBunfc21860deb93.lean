/-
  Helpers: H8Ha, H8Hb, H8Hc, H8Hd, A9ArP.
-/
import Derived.Test.YtiedoeifpmfbbaaDoorRows
import Derived.WalkKit
import Derived.Below
import Derived.Deep.QuietTactic
import Derived.BigQuiet
import Derived.Laws.BitsLemmas
namespace Go.Proofs.YtiedoeifpmfbbaaDoor.H8
open Go.RowKit

theorem ret_i64 {a b : Int} (h : a = b) : Ending.returned (.int .i64 a) = .returned (.int .i64 b) := by rw [h]
/-- what may be packed -/
def okP (a b c : Int) : Prop := 0 ≤ a ∧ a ≤ 65535 ∧ 1 ≤ b ∧ b ≤ 1073741823 ∧ 0 ≤ c ∧ c ≤ 3
instance (a b c : Int) : Decidable (okP a b c) := by unfold okP; infer_instance
def packV (a b c : Int) : Int := 1125899906842624 + a * 4294967296 + b * 4 + c
def packF (a b c : Int) : Int := if okP a b c then packV a b c else 0
theorem packF_ok {a b c : Int} (h : okP a b c) : packF a b c = packV a b c := if_pos h
theorem packF_no {a b c : Int} (h : ¬ okP a b c) : packF a b c = 0 := if_neg h
def opA (h : Int) : Int := h / 4294967296 % 65536
def opB (h : Int) : Int := h / 4 % 1073741824
def opC (h : Int) : Int := h % 4
/-- is a name -/
def isH (h : Int) : Prop := ∃ a b c, okP a b c ∧ h = packV a b c
theorem open_pack {a b c : Int} (h : okP a b c) : opA (packV a b c) = a ∧ opB (packV a b c) = b ∧ opC (packV a b c) = c := by
  obtain ⟨h1, h2, h3, h4, h5, h6⟩ := h
  unfold opA opB opC packV
  omega
theorem pack_pos {a b c : Int} (h : okP a b c) : 1125899906842624 < packV a b c ∧ packV a b c < 1407374883553280 := by
  obtain ⟨h1, h2, h3, h4, h5, h6⟩ := h
  unfold packV
  omega
theorem pack_inj {a b c a' b' c' : Int} (h : okP a b c) (h' : okP a' b' c') (e : packV a b c = packV a' b' c') : a = a' ∧ b = b' ∧ c = c' := by
  obtain ⟨x1, x2, x3⟩ := open_pack h
  obtain ⟨y1, y2, y3⟩ := open_pack h'
  rw [e] at x1 x2 x3
  exact ⟨x1.symm.trans y1, x2.symm.trans y2, x3.symm.trans y3⟩
theorem not_name {h : Int} (hn : ¬ isH h) : packF (opA h) (opB h) (opC h) = 0 ∨ packF (opA h) (opB h) (opC h) ≠ h := by
  by_cases ho : okP (opA h) (opB h) (opC h)
  · refine .inr fun e => hn ⟨_, _, _, ho, ?_⟩
    rw [packF_ok ho] at e
    exact e.symm
  · exact .inl (packF_no ho)
theorem not_name_bd {h : Int} (hb : h ≤ 1125899906842624 ∨ 1407374883553280 ≤ h) : ¬ isH h := by
  rintro ⟨a, b, c, ho, rfl⟩
  have := pack_pos ho
  omega
theorem not_name_gen {a c : Int} (h1 : 0 ≤ c) (h2 : c ≤ 3) : ¬ isH (1125899906842624 + a * 4294967296 + c) := by
  rintro ⟨a', b', c', ho, e⟩
  obtain ⟨k1, k2, k3, k4, k5, k6⟩ := ho
  unfold packV at e
  omega
/-- a class's size -/
def szT : List Int := [8, 16, 32, 64]
def sizeF (c : Int) : Int := if 0 ≤ c ∧ c < 4 then szT.getD c.toNat 0 else 0
def fdT : List Int := [32, 0, 65535, 2, 1, 1073741823, 0, 0, 3]
structure HTab (w : World) : Prop where
  sz : ∀ i : Nat, i < 4 → w.cell? ⟨1, i, none⟩ = some (.int .i64 (szT.getD i 0))
  fd : ∀ i : Nat, i < 9 → w.cell? ⟨0, i, none⟩ = some (.int .i64 (fdT.getD i 0))
theorem HTab.pos {w : World} (h : HTab w) : 1 < w.heap.size ∧ 0 < w.heap.size := ⟨block_lt_of_cell (h.sz 0 (by omega)), block_lt_of_cell (h.fd 0 (by omega))⟩
theorem HTab.below {w w' : World} (h : HTab w) (hb : Below w.heap.size w w') : HTab w' :=
  ⟨fun i hi => by rw [hb.cell (p := ⟨1, i, none⟩) h.pos.1]; exact h.sz i hi, fun i hi => by rw [hb.cell (p := ⟨0, i, none⟩) h.pos.2]; exact h.fd i hi⟩
theorem HTab.alloc {w : World} (h : HTab w) (o : Obj) : HTab (w.alloc o) := h.below ((Below.refl _ _).alloc (Nat.le_refl _) o)
theorem HTab.drewN {w : World} (h : HTab w) (n : Nat) : HTab (w.drewN n) := ⟨h.sz, h.fd⟩
theorem sizeF_no {c : Int} (h : c < 0 ∨ 4 ≤ c) : sizeF c = 0 := by unfold sizeF; rw [if_neg (by omega)]
theorem sizeF_yes {c : Int} (h1 : 0 ≤ c) (h2 : c < 4) : sizeF c = szT.getD c.toNat 0 := by unfold sizeF; rw [if_pos ⟨h1, h2⟩]
theorem Size_any (c : Int) (w : World) (hT : HTab w) : Calls Tryd.prog 18 #[.int .i64 c] w fun e w' => e = .returned (.int .i64 (sizeF c)) ∧ w' = w := by
  by_cases h0 : c < 0
  · have hd : decide (c < 0) = true := by simpa using h0
    rw [sizeF_no (.inl h0)]
    go_enter Tryd.func18, Tryd.ntmps18
    go_wp2
    go_ret
    exact ⟨rfl, rfl⟩
  · have hd : decide (c < 0) = false := by simpa using h0
    by_cases h4 : 4 ≤ c
    · have hd4 : decide (4 ≤ c) = true := by simpa using h4
      rw [sizeF_no (.inr h4)]
      go_enter Tryd.func18, Tryd.ntmps18
      go_wp2
      go_ret
      exact ⟨rfl, rfl⟩
    · have hd4 : decide (4 ≤ c) = false := by simpa using h4
      have hc := hT.sz c.toNat (by omega)
      rw [sizeF_yes (by omega) (by omega)]
      go_enter Tryd.func18, Tryd.ntmps18
      go_wp2
      go_ret
      exact ⟨rfl, rfl⟩
/-- both parts of a number side by side -/
theorem or_low (i : Nat) (x y : Int) (hx₀ : 0 ≤ x) (hx : x % 2 ^ i = 0) (hx₁ : x < 2 ^ 62) (hy₀ : 0 ≤ y) (hy : y < 2 ^ i) (hy₁ : y < 2 ^ 62) : bits .or .i64 x y = x + y :=
  bits_join .i64 62 (by decide) (fun n h0 h1 => by rw [IntKind.wrap_i64]; omega) i x y hx₀ hx hx₁ hy₀ hy hy₁
theorem and_mask (j : Nat) (m : Int) (n : Int) (hj : j ≤ 62) (hm : m = 2 ^ j - 1) : bits .and .i64 n m = n % 2 ^ j := by
  have hp : (2 : Nat) ^ j ≤ 2 ^ 62 := Nat.pow_le_pow_right (by omega) hj
  have hp0 : 0 < (2 : Nat) ^ j := Nat.pow_pos (by omega)
  have e : (2 : Int) ^ j = ((2 ^ j : Nat) : Int) := by simp
  have hm2 : (BitVec.ofInt 64 m).toNat = 2 ^ j - 1 := by rw [BitVec.toNat_ofInt, hm, e]; omega
  have key : (BitVec.ofInt 64 n &&& BitVec.ofInt 64 m).toNat = (n % ((2 ^ 64 : Nat) : Int)).toNat % 2 ^ j := by
    rw [BitVec.toNat_and, BitVec.toNat_ofInt, hm2, Nat.and_two_pow_sub_one_eq_mod]
  show IntKind.i64.wrap ((BitVec.ofInt 64 n &&& BitVec.ofInt 64 m).toNat : Nat) = n % 2 ^ j
  have hd : ((2 ^ j : Nat) : Int) ∣ ((2 ^ 64 : Nat) : Int) := by
    refine Int.natCast_dvd_natCast.2 (Nat.pow_dvd_pow 2 (by omega))
  have h1 : (((n % ((2 ^ 64 : Nat) : Int)).toNat % 2 ^ j : Nat) : Int) = n % ((2 ^ j : Nat) : Int) := by
    rw [Int.natCast_emod, Int.toNat_of_nonneg (Int.emod_nonneg _ (by decide)), Int.emod_emod_of_dvd _ hd]
  rw [key, h1, IntKind.wrap_i64, e]
  have b1 := Int.emod_nonneg n (b := ((2 ^ j : Nat) : Int)) (by omega)
  have b2 := Int.emod_lt_of_pos n (b := ((2 ^ j : Nat) : Int)) (by omega)
  have b3 : ((2 ^ j : Nat) : Int) ≤ ((2 ^ 62 : Nat) : Int) := by exact_mod_cast hp
  have b4 : ((2 ^ 62 : Nat) : Int) = 4611686018427387904 := by decide
  omega
theorem and65535 (n : Int) : bits .and .i64 n 65535 = n % 65536 := and_mask 16 _ n (by omega) (by decide)
theorem and1073741823 (n : Int) : bits .and .i64 n 1073741823 = n % 1073741824 := and_mask 30 _ n (by omega) (by decide)
theorem and3 (n : Int) : bits .and .i64 n 3 = n % 4 := and_mask 2 _ n (by omega) (by decide)
end Go.Proofs.YtiedoeifpmfbbaaDoor.H8
namespace Go.Proofs.YtiedoeifpmfbbaaDoor.H8
open Go.RowKit

def hP (a b c : Int) (k : Nat) : Int := if k = 0 then 1125899906842624 else if k = 1 then 1125899906842624 + a * 4294967296 else if k = 2 then 1125899906842624 + a * 4294967296 + b * 4 else packV a b c
def okK (a b c : Int) (k : Nat) : Prop := (0 < k → 0 ≤ a ∧ a ≤ 65535) ∧ (1 < k → 1 ≤ b ∧ b ≤ 1073741823) ∧ (2 < k → 0 ≤ c ∧ c ≤ 3)
theorem okK_all {a b c : Int} (h : okK a b c 3) : okP a b c := by
  obtain ⟨h1, h2, h3⟩ := h
  obtain ⟨a1, a2⟩ := h1 (by omega)
  obtain ⟨b1, b2⟩ := h2 (by omega)
  obtain ⟨c1, c2⟩ := h3 (by omega)
  exact ⟨a1, a2, b1, b2, c1, c2⟩
set_option maxHeartbeats 1000000 in
theorem Pack_any (a b c : Int) (w : World) (hT : HTab w) : Calls Tryd.prog 32 #[.int .i64 a, .int .i64 b, .int .i64 c] w fun e w' => e = .returned (.int .i64 (packF a b c)) ∧ Below w.heap.size w w' := by
  have hp := hT.pos
  have hp1 := hp.1
  have hp2 := hp.2
  clear hp
  go_enter Tryd.func32, Tryd.ntmps32
  go_wp2_with fail
  go_loopw [7, 15] (fun hv kv wr => ∃ k : Nat, k ≤ 3 ∧ kv = .int .i64 k ∧ okK a b c k ∧ hv = .int .i64 (hP a b c k) ∧ HTab wr ∧ Below w.heap.size w wr) (fun _ kv _ => 3 - (intOf kv).toNat)
  case atStart => exact ⟨0, by omega, rfl, ⟨by omega, by omega, by omega⟩, rfl, hT, Below.refl _ _⟩
  case round =>
    obtain ⟨k, hk, rfl, hok, rfl, hTr, hB⟩ := hrel
    rcases (by omega : k = 0 ∨ k = 1 ∨ k = 2 ∨ k = 3) with rfl | rfl | rfl | rfl
    · have f0 : wr.cell? ⟨0, 0, none⟩ = some (.int .i64 32) := hTr.fd 0 (by omega)
      have f1 : wr.cell? ⟨0, 1, none⟩ = some (.int .i64 0) := hTr.fd 1 (by omega)
      have f2 : wr.cell? ⟨0, 2, none⟩ = some (.int .i64 65535) := hTr.fd 2 (by omega)
      have hx : ∀ wx : World, (Instr.index 75 (.agg #[.int .i64 a, .int .i64 b, .int .i64 c]) (.int .i64 0)).run Tryd.prog wx = .ok (.int .i64 a) wx := fun _ => by kernel_rfl
      rw [show hP a b c 0 = 1125899906842624 from rfl]
      by_cases h0 : a < 0
      · have hd : decide (a < 0) = true := by simpa using h0
        have hn := packF_no (a := a) (b := b) (c := c) (fun h => by have := h.1; have := h.2.1; omega)
        clear hok
        go_wp2_with fail
        go_ret
        first | exact ⟨ret_i64 hn.symm, hB.alloc hB.size _⟩ | exact ⟨rfl, hB.alloc hB.size _⟩
      · have hd : decide (a < 0) = false := by simpa using h0
        by_cases h1 : 65535 < a
        · have hd1 : decide (65535 < a) = true := by simpa using h1
          have hn := packF_no (a := a) (b := b) (c := c) (fun h => by have := h.1; have := h.2.1; omega)
          clear hok
          go_wp2_with fail
          go_ret
          first | exact ⟨ret_i64 hn.symm, hB.alloc hB.size _⟩ | exact ⟨rfl, hB.alloc hB.size _⟩
        · have hd1 : decide (65535 < a) = false := by simpa using h1
          have ho : bits .or .i64 (1125899906842624) (a * 4294967296) = hP a b c 1 := or_low 48 _ _ (by omega) (by omega) (by omega) (by omega) (by omega) (by omega)
          have hnext : okK a b c 1 := ⟨fun _ => ⟨by omega, by omega⟩, by omega, by omega⟩
          clear hok
          go_wp2_with fail
          go_roundw
          case rel => exact ⟨1, by omega, by go_num, hnext, rfl, hTr.alloc _, hB.alloc hB.size _⟩
          case measure => simp [intOf]
    · have f0 : wr.cell? ⟨0, 3, none⟩ = some (.int .i64 2) := hTr.fd 3 (by omega)
      have f1 : wr.cell? ⟨0, 4, none⟩ = some (.int .i64 1) := hTr.fd 4 (by omega)
      have f2 : wr.cell? ⟨0, 5, none⟩ = some (.int .i64 1073741823) := hTr.fd 5 (by omega)
      have hx : ∀ wx : World, (Instr.index 75 (.agg #[.int .i64 a, .int .i64 b, .int .i64 c]) (.int .i64 1)).run Tryd.prog wx = .ok (.int .i64 b) wx := fun _ => by kernel_rfl
      rw [show hP a b c 1 = 1125899906842624 + a * 4294967296 from rfl]
      have ha := hok.1 (by omega)
      by_cases h0 : b < 1
      · have hd : decide (b < 1) = true := by simpa using h0
        have hn := packF_no (a := a) (b := b) (c := c) (fun h => by have := h.2.2.1; have := h.2.2.2.1; omega)
        clear hok
        go_wp2_with fail
        go_ret
        first | exact ⟨ret_i64 hn.symm, hB.alloc hB.size _⟩ | exact ⟨rfl, hB.alloc hB.size _⟩
      · have hd : decide (b < 1) = false := by simpa using h0
        by_cases h1 : 1073741823 < b
        · have hd1 : decide (1073741823 < b) = true := by simpa using h1
          have hn := packF_no (a := a) (b := b) (c := c) (fun h => by have := h.2.2.1; have := h.2.2.2.1; omega)
          clear hok
          go_wp2_with fail
          go_ret
          first | exact ⟨ret_i64 hn.symm, hB.alloc hB.size _⟩ | exact ⟨rfl, hB.alloc hB.size _⟩
        · have hd1 : decide (1073741823 < b) = false := by simpa using h1
          have ho : bits .or .i64 (1125899906842624 + a * 4294967296) (b * 4) = hP a b c 2 := or_low 32 _ _ (by omega) (by omega) (by omega) (by omega) (by omega) (by omega)
          have hnext : okK a b c 2 := ⟨fun _ => ha, fun _ => ⟨by omega, by omega⟩, by omega⟩
          clear hok
          go_wp2_with fail
          go_roundw
          case rel => exact ⟨2, by omega, by go_num, hnext, rfl, hTr.alloc _, hB.alloc hB.size _⟩
          case measure => simp [intOf]
    · have f0 : wr.cell? ⟨0, 6, none⟩ = some (.int .i64 0) := hTr.fd 6 (by omega)
      have f1 : wr.cell? ⟨0, 7, none⟩ = some (.int .i64 0) := hTr.fd 7 (by omega)
      have f2 : wr.cell? ⟨0, 8, none⟩ = some (.int .i64 3) := hTr.fd 8 (by omega)
      have hx : ∀ wx : World, (Instr.index 75 (.agg #[.int .i64 a, .int .i64 b, .int .i64 c]) (.int .i64 2)).run Tryd.prog wx = .ok (.int .i64 c) wx := fun _ => by kernel_rfl
      rw [show hP a b c 2 = 1125899906842624 + a * 4294967296 + b * 4 from rfl]
      have ha := hok.1 (by omega)
      have hb2 := hok.2.1 (by omega)
      by_cases h0 : c < 0
      · have hd : decide (c < 0) = true := by simpa using h0
        have hn := packF_no (a := a) (b := b) (c := c) (fun h => by have := h.2.2.2.2.1; have := h.2.2.2.2.2; omega)
        clear hok
        go_wp2_with fail
        go_ret
        first | exact ⟨ret_i64 hn.symm, hB.alloc hB.size _⟩ | exact ⟨rfl, hB.alloc hB.size _⟩
      · have hd : decide (c < 0) = false := by simpa using h0
        by_cases h1 : 3 < c
        · have hd1 : decide (3 < c) = true := by simpa using h1
          have hn := packF_no (a := a) (b := b) (c := c) (fun h => by have := h.2.2.2.2.1; have := h.2.2.2.2.2; omega)
          clear hok
          go_wp2_with fail
          go_ret
          first | exact ⟨ret_i64 hn.symm, hB.alloc hB.size _⟩ | exact ⟨rfl, hB.alloc hB.size _⟩
        · have hd1 : decide (3 < c) = false := by simpa using h1
          have ho : bits .or .i64 (1125899906842624 + a * 4294967296 + b * 4) c = packV a b c := or_low 2 (1125899906842624 + a * 4294967296 + b * 4) c (by omega) (by omega) (by omega) (by omega) (by omega) (by omega)
          have hnext : okK a b c 3 := ⟨fun _ => ha, fun _ => hb2, fun _ => ⟨by omega, by omega⟩⟩
          clear hok
          go_wp2_with fail
          go_roundw
          case rel => exact ⟨3, by omega, by go_num, hnext, rfl, hTr.alloc _, hB.alloc hB.size _⟩
          case measure => simp [intOf]
    · have hn := packF_ok (okK_all hok)
      clear hok
      rw [show hP a b c 3 = packV a b c from rfl]
      go_wp2_with fail
      go_ret
      first | exact ⟨ret_i64 hn.symm, hB⟩ | exact ⟨rfl, hB⟩
end Go.Proofs.YtiedoeifpmfbbaaDoor.H8
namespace Go.Proofs.YtiedoeifpmfbbaaDoor.H8
open Go.RowKit

/-- what Open answers -/
def opnV (h : Int) : Value := if h ≠ 0 ∧ packF (opA h) (opB h) (opC h) = h then .tuple #[.int .i64 (opA h), .int .i64 (opB h), .int .i64 (opC h), .bool true] else .tuple #[.int .i64 0, .int .i64 0, .int .i64 0, .bool false]
theorem opnV_yes {a b c : Int} (h : okP a b c) : opnV (packV a b c) = .tuple #[.int .i64 a, .int .i64 b, .int .i64 c, .bool true] := by
  obtain ⟨h1, h2, h3⟩ := open_pack h
  have h4 := pack_pos h
  unfold opnV
  rw [h1, h2, h3, packF_ok h, if_pos ⟨by omega, rfl⟩]
theorem opnV_no {h : Int} (hn : ¬ isH h) : opnV h = .tuple #[.int .i64 0, .int .i64 0, .int .i64 0, .bool false] := by
  unfold opnV
  refine if_neg fun hh => ?_
  rcases not_name hn with h0 | h0
  · rw [h0] at hh
    exact hh.1 hh.2.symm
  · exact h0 hh.2
def opX (h : Int) (k : Nat) : Int := if 0 < k then opA h else 0
def opY (h : Int) (k : Nat) : Int := if 1 < k then opB h else 0
def opZ (h : Int) (k : Nat) : Int := if 2 < k then opC h else 0
theorem below_drewN {B : Nat} {a w : World} (h : Below B a w) (n : Nat) : Below B a (w.drewN n) := ⟨h.os, h.tape, h.output, h.size, h.block⟩
set_option maxHeartbeats 1000000 in
theorem Open_any (h : Int) (w : World) (hT : HTab w) : Calls Tryd.prog 17 #[.int .i64 h] w fun e w' => e = .returned (opnV h) ∧ Below w.heap.size w w' := by
  have hp := hT.pos
  have hp1 := hp.1
  have hp2 := hp.2
  clear hp
  have hA : bits .and .i64 (h / 4294967296) 65535 = opA h := and65535 _
  have hBb : bits .and .i64 (h / 4) 1073741823 = opB h := and1073741823 _
  have hC : bits .and .i64 h 3 = opC h := and3 _
  have g0 : w.cell? ⟨0, 0, none⟩ = some (.int .i64 32) := hT.fd 0 (by omega)
  have g1 : w.cell? ⟨0, 1, none⟩ = some (.int .i64 0) := hT.fd 1 (by omega)
  have g2 : w.cell? ⟨0, 2, none⟩ = some (.int .i64 65535) := hT.fd 2 (by omega)
  have g3 : w.cell? ⟨0, 3, none⟩ = some (.int .i64 2) := hT.fd 3 (by omega)
  have g4 : w.cell? ⟨0, 4, none⟩ = some (.int .i64 1) := hT.fd 4 (by omega)
  have g5 : w.cell? ⟨0, 5, none⟩ = some (.int .i64 1073741823) := hT.fd 5 (by omega)
  have g6 : w.cell? ⟨0, 6, none⟩ = some (.int .i64 0) := hT.fd 6 (by omega)
  have g7 : w.cell? ⟨0, 7, none⟩ = some (.int .i64 0) := hT.fd 7 (by omega)
  have g8 : w.cell? ⟨0, 8, none⟩ = some (.int .i64 3) := hT.fd 8 (by omega)
  go_enter Tryd.func17, Tryd.ntmps17
  go_wp2_with fail
  go_loopw [10] (fun kv wr => ∃ k : Nat, k ≤ 3 ∧ kv = .int .i64 k ∧ wr.heap[w.heap.size]? = some (.cells #[.int .i64 (opX h k), .int .i64 (opY h k), .int .i64 (opZ h k)] 75 (0, 0)) ∧ Below w.heap.size w wr) (fun kv _ => 3 - (intOf kv).toNat)
  case atStart => exact ⟨0, by omega, rfl, heap_alloc_new _ _, (Below.refl _ _).alloc (Nat.le_refl _) _⟩
  case round =>
    obtain ⟨k, hk, rfl, hbox, hB⟩ := hrel
    rcases (by omega : k = 0 ∨ k = 1 ∨ k = 2 ∨ k = 3) with rfl | rfl | rfl | rfl
    · have hx : ∀ wx : World, (Instr.index 78 (.agg #[.int .i64 32, .int .i64 0, .int .i64 65535, .int .i64 2, .int .i64 1, .int .i64 1073741823, .int .i64 0, .int .i64 0, .int .i64 3]) (.int .i64 0)).run Tryd.prog wx = .ok (.agg #[.int .i64 32, .int .i64 0, .int .i64 65535]) wx := fun _ => by kernel_rfl
      have hbx : wr.heap[w.heap.size]? = some (.cells #[.int .i64 0, .int .i64 0, .int .i64 0] 75 (0, 0)) := hbox
      have hlt : w.heap.size < wr.heap.size := lt_of_block hbx
      have hc := fun o => cell_of_row (wr.alloc o) w.heap.size 0 _ _ _ ((Below.heap_alloc wr o _ hlt).trans hbx)
      have hf := fun o => frozen_of_row (wr.alloc o) w.heap.size 0 _ _ ((Below.heap_alloc wr o _ hlt).trans hbx)
      have hs := hB.setCell (p := ⟨w.heap.size, 0, none⟩) (Nat.le_refl _) (.int .i64 (opA h))
      have hlt2 : w.heap.size < (wr.setCell ⟨w.heap.size, 0, none⟩ (.int .i64 (opA h))).heap.size := by simpa using hlt
      have hn := fun o => (Below.heap_alloc (wr.setCell ⟨w.heap.size, 0, none⟩ (.int .i64 (opA h))) o _ hlt2).trans (heap_setCell_same wr w.heap.size 0 _ _ (.int .i64 (opA h)) hbx)
      have hne : ¬ w.heap.size = wr.heap.size := by omega
      have hne2 : ¬ wr.heap.size = w.heap.size := by omega
      clear hbox hbx g0 g1 g2 g3 g4 g5 g6 g7 g8
      go_wp2_with fail
      go_region
      go_wp2_with fail
      go_roundw
      case rel => exact ⟨1, by omega, by go_num, hn _, (hs.alloc hs.size _).drew⟩
      case measure => simp [intOf]
    · have hx : ∀ wx : World, (Instr.index 78 (.agg #[.int .i64 32, .int .i64 0, .int .i64 65535, .int .i64 2, .int .i64 1, .int .i64 1073741823, .int .i64 0, .int .i64 0, .int .i64 3]) (.int .i64 1)).run Tryd.prog wx = .ok (.agg #[.int .i64 2, .int .i64 1, .int .i64 1073741823]) wx := fun _ => by kernel_rfl
      have hbx : wr.heap[w.heap.size]? = some (.cells #[.int .i64 (opA h), .int .i64 0, .int .i64 0] 75 (0, 0)) := hbox
      have hlt : w.heap.size < wr.heap.size := lt_of_block hbx
      have hc := fun o => cell_of_row (wr.alloc o) w.heap.size 1 _ _ _ ((Below.heap_alloc wr o _ hlt).trans hbx)
      have hf := fun o => frozen_of_row (wr.alloc o) w.heap.size 1 _ _ ((Below.heap_alloc wr o _ hlt).trans hbx)
      have hs := hB.setCell (p := ⟨w.heap.size, 1, none⟩) (Nat.le_refl _) (.int .i64 (opB h))
      have hlt2 : w.heap.size < (wr.setCell ⟨w.heap.size, 1, none⟩ (.int .i64 (opB h))).heap.size := by simpa using hlt
      have hn := fun o => (Below.heap_alloc (wr.setCell ⟨w.heap.size, 1, none⟩ (.int .i64 (opB h))) o _ hlt2).trans (heap_setCell_same wr w.heap.size 1 _ _ (.int .i64 (opB h)) hbx)
      have hne : ¬ w.heap.size = wr.heap.size := by omega
      have hne2 : ¬ wr.heap.size = w.heap.size := by omega
      clear hbox hbx g0 g1 g2 g3 g4 g5 g6 g7 g8
      go_wp2_with fail
      go_region
      go_wp2_with fail
      go_roundw
      case rel => exact ⟨2, by omega, by go_num, hn _, (hs.alloc hs.size _).drew⟩
      case measure => simp [intOf]
    · have hx : ∀ wx : World, (Instr.index 78 (.agg #[.int .i64 32, .int .i64 0, .int .i64 65535, .int .i64 2, .int .i64 1, .int .i64 1073741823, .int .i64 0, .int .i64 0, .int .i64 3]) (.int .i64 2)).run Tryd.prog wx = .ok (.agg #[.int .i64 0, .int .i64 0, .int .i64 3]) wx := fun _ => by kernel_rfl
      have hbx : wr.heap[w.heap.size]? = some (.cells #[.int .i64 (opA h), .int .i64 (opB h), .int .i64 0] 75 (0, 0)) := hbox
      have hlt : w.heap.size < wr.heap.size := lt_of_block hbx
      have hc := fun o => cell_of_row (wr.alloc o) w.heap.size 2 _ _ _ ((Below.heap_alloc wr o _ hlt).trans hbx)
      have hf := fun o => frozen_of_row (wr.alloc o) w.heap.size 2 _ _ ((Below.heap_alloc wr o _ hlt).trans hbx)
      have hs := hB.setCell (p := ⟨w.heap.size, 2, none⟩) (Nat.le_refl _) (.int .i64 (opC h))
      have hlt2 : w.heap.size < (wr.setCell ⟨w.heap.size, 2, none⟩ (.int .i64 (opC h))).heap.size := by simpa using hlt
      have hn := fun o => (Below.heap_alloc (wr.setCell ⟨w.heap.size, 2, none⟩ (.int .i64 (opC h))) o _ hlt2).trans (heap_setCell_same wr w.heap.size 2 _ _ (.int .i64 (opC h)) hbx)
      have hne : ¬ w.heap.size = wr.heap.size := by omega
      have hne2 : ¬ wr.heap.size = w.heap.size := by omega
      clear hbox hbx g0 g1 g2 g3 g4 g5 g6 g7 g8
      go_wp2_with fail
      go_region
      go_wp2_with fail
      go_roundw
      case rel => exact ⟨3, by omega, by go_num, hn _, (hs.alloc hs.size _).drew⟩
      case measure => simp [intOf]
    · have hbx : wr.heap[w.heap.size]? = some (.cells #[.int .i64 (opA h), .int .i64 (opB h), .int .i64 (opC h)] 75 (0, 0)) := hbox
      have c0 : wr.cell? ⟨w.heap.size, 0, none⟩ = some (.int .i64 (opA h)) := cell_of_row _ _ _ _ _ _ hbx
      have c1 : wr.cell? ⟨w.heap.size, 1, none⟩ = some (.int .i64 (opB h)) := cell_of_row _ _ _ _ _ _ hbx
      have c2 : wr.cell? ⟨w.heap.size, 2, none⟩ = some (.int .i64 (opC h)) := cell_of_row _ _ _ _ _ _ hbx
      have hTr := hT.below hB
      have HP : Hid (∀ m, Calls Tryd.prog 32 #[.int .i64 (opA h), .int .i64 (opB h), .int .i64 (opC h)] (wr.drewN m) fun e w' => e = .returned (.int .i64 (packF (opA h) (opB h) (opC h))) ∧ Below wr.heap.size wr w') := fun m => (Pack_any (opA h) (opB h) (opC h) (wr.drewN m) (hTr.drewN m)).mono fun e w' hh => ⟨hh.1, (below_drewN (Below.refl wr.heap.size wr) m).trans hh.2⟩
      clear hbox hbx g0 g1 g2 g3 g4 g5 g6 g7 g8 hA hBb hC hTr
      by_cases h0 : h = 0
      · have hno : opnV h = .tuple #[.int .i64 0, .int .i64 0, .int .i64 0, .bool false] := by unfold opnV; rw [if_neg (fun hh => hh.1 h0)]
        have HN : Hid (Ending.returned (opnV h) = .returned (.tuple #[.int .i64 0, .int .i64 0, .int .i64 0, .bool false])) := by show _ = _; rw [hno]
        clear hno
        have h0b : (h == 0) = true := by simpa using h0
        clear h0
        go_wp2_with fail
        go_quiet (fail)
        go_wp2_with fail
        exact bodyPost_ret (v := .tuple #[.int .i64 0, .int .i64 0, .int .i64 0, .bool false]) (by simp [results, Tryd.results17, go_sem]) rfl ⟨HN.out.symm, below_drewN hB _⟩
      · have h0b : (h == 0) = false := by simpa using h0
        by_cases h1 : packF (opA h) (opB h) (opC h) = h
        · have hyes : opnV h = .tuple #[.int .i64 (opA h), .int .i64 (opB h), .int .i64 (opC h), .bool true] := by unfold opnV; rw [if_pos ⟨h0, h1⟩]
          have HN : Hid (Ending.returned (opnV h) = .returned (.tuple #[.int .i64 (opA h), .int .i64 (opB h), .int .i64 (opC h), .bool true])) := by show _ = _; rw [hyes]
          have h1b : (packF (opA h) (opB h) (opC h) != h) = false := by simpa using h1
          clear hyes h1
          generalize packF (opA h) (opB h) (opC h) = pf at *
          go_wp2_with fail
          go_quiet (fail)
          go_wp2_with fail
          refine (HP.out _).mono ?_
          rintro e w1 ⟨rfl, hb1⟩
          go_wp2_with fail
          exact bodyPost_ret (v := .tuple #[.int .i64 (opA h), .int .i64 (opB h), .int .i64 (opC h), .bool true]) (by simp [results, Tryd.results17, go_sem]) rfl ⟨HN.out.symm, hB.trans (hb1.mono hB.size)⟩
        · have hno : opnV h = .tuple #[.int .i64 0, .int .i64 0, .int .i64 0, .bool false] := by unfold opnV; rw [if_neg (fun hh => h1 hh.2)]
          have HN : Hid (Ending.returned (opnV h) = .returned (.tuple #[.int .i64 0, .int .i64 0, .int .i64 0, .bool false])) := by show _ = _; rw [hno]
          have h1b : (packF (opA h) (opB h) (opC h) != h) = true := by simpa using h1
          clear hno h1
          generalize packF (opA h) (opB h) (opC h) = pf at *
          go_wp2_with fail
          go_quiet (fail)
          go_wp2_with fail
          refine (HP.out _).mono ?_
          rintro e w1 ⟨rfl, hb1⟩
          go_wp2_with fail
          exact bodyPost_ret (v := .tuple #[.int .i64 0, .int .i64 0, .int .i64 0, .bool false]) (by simp [results, Tryd.results17, go_sem]) rfl ⟨HN.out.symm, hB.trans (hb1.mono hB.size)⟩
end Go.Proofs.YtiedoeifpmfbbaaDoor.H8
namespace Go.Proofs.YtiedoeifpmfbbaaDoor.H8
open Go.RowKit

/-- any number as one from 0 to n - 1 -/
def placeI (v n : Int) : Int := v % n
theorem placeI_bd (v n : Int) (h : 0 < n) : 0 ≤ placeI v n ∧ placeI v n < n := ⟨Int.emod_nonneg _ (by omega), Int.emod_lt_of_pos _ h⟩
theorem tmod_bd {v n : Int} (h1 : 0 < n) : -n < v.tmod n ∧ v.tmod n < n := by
  have h := Int.natAbs_tmod v n
  have h2 : v.natAbs % n.natAbs < n.natAbs := Nat.mod_lt _ (by omega)
  omega
theorem place_neg {v n : Int} (h1 : 0 < n) (h : v.tmod n < 0) : v.tmod n + n = placeI v n := by
  unfold placeI
  have e := Int.tmod_add_mul_tdiv v n
  have b := tmod_bd (v := v) h1
  rw [← Int.emod_emod_of_dvd v (Int.dvd_refl n)]
  have : v % n = (v.tmod n + n) % n := by
    rw [Int.add_emod_right]
    conv => lhs; rw [← e]
    rw [Int.add_mul_emod_self_left]
  rw [this, Int.emod_emod_of_dvd _ (Int.dvd_refl n), Int.emod_eq_of_lt (by omega) (by omega)]
theorem place_pos {v n : Int} (h1 : 0 < n) (h : ¬ v.tmod n < 0) : v.tmod n = placeI v n := by
  unfold placeI
  have e := Int.tmod_add_mul_tdiv v n
  have b := tmod_bd (v := v) h1
  have : v % n = v.tmod n % n := by
    conv => lhs; rw [← e]
    rw [Int.add_mul_emod_self_left]
  rw [this, Int.emod_eq_of_lt (by omega) (by omega)]
theorem place_any (v n : Int) (w : World) (h1 : 0 < n) (h2 : n ≤ 2147483648) : Calls Tryd.prog 7 #[.int .i64 v, .int .i64 n] w fun e w' => e = .returned (.int .i64 (placeI v n)) ∧ w' = w := by
  have hn : ¬ n = 0 := by omega
  have hn2 : (n == 0) = false := by simp [hn]
  have hb := tmod_bd (v := v) h1
  have hw : wrap64 (v.tmod n) = v.tmod n := by unfold wrap64; omega
  by_cases h : v.tmod n < 0
  · have hd : decide (v.tmod n < 0) = true := by simpa using h
    go_enter Tryd.func7, Tryd.ntmps7
    go_wp2
    go_ret
    exact ⟨ret_i64 (place_neg h1 h), rfl⟩
  · have hd : decide (v.tmod n < 0) = false := by simpa using h
    go_enter Tryd.func7, Tryd.ntmps7
    go_wp2
    go_ret
    exact ⟨ret_i64 (place_pos h1 (by omega)), rfl⟩
theorem below_then {a b c : World} (h : Below a.heap.size a b) (k : Below b.heap.size b c) : Below a.heap.size a c := h.trans (k.mono h.size)
theorem wf_in {n : Int} (h : (Lit.int .i64 n).wf = true) : -9223372036854775808 ≤ n ∧ n ≤ 9223372036854775807 := by
  simp only [Lit.wf, Bool.and_eq_true, decide_eq_true_eq] at h
  simp [IntKind.min, IntKind.max, IntKind.bits, IntKind.signed] at h
  exact ⟨by omega, by omega⟩
/-- what may be packed is packed, what may not is 0 -/
theorem Pack_ok {a b c : Int} (h : okP a b c) (w : World) (hT : HTab w) : Calls Tryd.prog 32 #[.int .i64 a, .int .i64 b, .int .i64 c] w fun e w' => e = .returned (.int .i64 (packV a b c)) ∧ Below w.heap.size w w' := by
  have := Pack_any a b c w hT
  rw [packF_ok h] at this
  exact this
theorem Pack_no {a b c : Int} (h : ¬ okP a b c) (w : World) (hT : HTab w) : Calls Tryd.prog 32 #[.int .i64 a, .int .i64 b, .int .i64 c] w fun e w' => e = .returned (.int .i64 0) ∧ Below w.heap.size w w' := by
  have := Pack_any a b c w hT
  rw [packF_no h] at this
  exact this
theorem Open_ok {a b c : Int} (h : okP a b c) (w : World) (hT : HTab w) : Calls Tryd.prog 17 #[.int .i64 (packV a b c)] w fun e w' => e = .returned (.tuple #[.int .i64 a, .int .i64 b, .int .i64 c, .bool true]) ∧ Below w.heap.size w w' := by
  have := Open_any (packV a b c) w hT
  rw [opnV_yes h] at this
  exact this
theorem Open_no {h : Int} (hn : ¬ isH h) (w : World) (hT : HTab w) : Calls Tryd.prog 17 #[.int .i64 h] w fun e w' => e = .returned (.tuple #[.int .i64 0, .int .i64 0, .int .i64 0, .bool false]) ∧ Below w.heap.size w w' := by
  have := Open_any h w hT
  rw [opnV_no hn] at this
  exact this
theorem Size_no {c : Int} (h : c < 0 ∨ 4 ≤ c) (w : World) (hT : HTab w) : Calls Tryd.prog 18 #[.int .i64 c] w fun e w' => e = .returned (.int .i64 0) ∧ w' = w := by
  have := Size_any c w hT
  rw [sizeF_no h] at this
  exact this
end Go.Proofs.YtiedoeifpmfbbaaDoor.H8
namespace Go.Proofs.YtiedoeifpmfbbaaDoor.A9
open Go.RowKit
open H8 (okP packV packF opA opB opC isH sizeF szT open_pack)

def upN (f : Nat → Int) (k : Nat) (v : Int) : Nat → Int := fun j => if j = k then v else f j
def upI (f : Int → Int) (k v : Int) : Int → Int := fun j => if j = k then v else f j
theorem upN_same (f : Nat → Int) (k : Nat) (v : Int) : upN f k v k = v := if_pos rfl
theorem upN_other (f : Nat → Int) {k j : Nat} (v : Int) (h : j ≠ k) : upN f k v j = f j := if_neg h
theorem upI_same (f : Int → Int) (k v : Int) : upI f k v k = v := if_pos rfl
theorem upI_other (f : Int → Int) {k j : Int} (v : Int) (h : j ≠ k) : upI f k v j = f j := if_neg h
theorem wr64_id {x : Int} (h1 : -9223372036854775808 ≤ x) (h2 : x ≤ 9223372036854775807) : wrap64 x = x := by unfold wrap64; omega
theorem wr64_add (x y : Int) : wrap64 (wrap64 x + y) = wrap64 (x + y) := by unfold wrap64; omega
theorem wr64_wr (x : Int) : wrap64 (wrap64 x) = wrap64 x := by unfold wrap64; omega
/-- a name's place and size -/
def bN (h : Int) : Nat := (opA h).toNat
def zN (h : Int) : Nat := (sizeF (opC h)).toNat
theorem sizeF_bd {c : Int} (h1 : 0 ≤ c) (h2 : c < 4) : 8 ≤ sizeF c ∧ sizeF c ≤ 64 := by
  rcases (by omega : c = 0 ∨ c = 1 ∨ c = 2 ∨ c = 3) with rfl | rfl | rfl | rfl <;> decide
theorem opA_bN (h : Int) : opA h = bN h := by unfold bN opA; omega
theorem opC_bd (h : Int) : 0 ≤ opC h ∧ opC h < 4 := by unfold opC; omega
theorem sizeF_zN (h : Int) : sizeF (opC h) = zN h := by
  obtain ⟨h1, h2⟩ := opC_bd h
  have := sizeF_bd h1 h2
  unfold zN; omega
theorem zN_bd (h : Int) : 8 ≤ zN h ∧ zN h ≤ 64 := by
  obtain ⟨h1, h2⟩ := opC_bd h
  have := sizeF_bd h1 h2
  unfold zN; omega
theorem bN_bd (h : Int) : bN h < 65536 := by unfold bN opA; omega
theorem bN_pack {a b c : Int} (h : okP a b c) : bN (packV a b c) = a.toNat := by unfold bN; rw [(open_pack h).1]
theorem zN_pack {a b c : Int} (h : okP a b c) : zN (packV a b c) = (sizeF c).toNat := by unfold zN; rw [(open_pack h).2.2]
theorem opB_pack {a b c : Int} (h : okP a b c) : opB (packV a b c) = b := (open_pack h).2.1
theorem isH_pack {a b c : Int} (h : okP a b c) : isH (packV a b c) := ⟨a, b, c, h, rfl⟩
theorem isH_parts {h : Int} (hh : isH h) : okP (opA h) (opB h) (opC h) ∧ h = packV (opA h) (opB h) (opC h) := by
  obtain ⟨a, b, c, ho, rfl⟩ := hh
  obtain ⟨h1, h2, h3⟩ := open_pack ho
  rw [h1, h2, h3]
  exact ⟨ho, rfl⟩
/-- an arena -/
structure Ar where
  nr : Nat
  nw : Nat
  raw : Nat → Int
  mem : Nat → Int
  st : Int → Int
  gen : Int → Int
  was : Nat → Bool
  tak : Nat → Bool
  cC : Int
  cL : Int
  cR : Int
  fresh : Bool
  bad : Bool
  uses : Int
def cutF (n : Int) : Int := min (max n 0) 65536
def new9 (r w : Int) (fresh : Bool) : Ar := ⟨(cutF r).toNat, (cutF w).toNat, fun _ => 0, fun _ => 0, fun _ => 0, fun _ => 0, fun _ => false, fun _ => false, 0, 0, 0, fresh, false, 0⟩
/-- has the place -/
def inS (h : Int) (p : Nat) : Prop := bN h ≤ p ∧ p < bN h + zN h
instance (h : Int) (p : Nat) : Decidable (inS h p) := by unfold inS; infer_instance
/-- what the package keeps -/
structure Ok9 (s : Ar) : Prop where
  fit : ∀ h, s.st h ≠ 0 → isH h ∧ bN h + zN h ≤ s.nw ∧ (s.st h = 1 ∨ s.st h = 2)
  tak : ∀ h p, s.st h ≠ 0 → inS h p → s.tak p = true
  free : ∀ p, s.tak p = true → ∃ h, s.st h ≠ 0 ∧ inS h p
  two : ∀ h k p, s.st h ≠ 0 → s.st k ≠ 0 → inS h p → inS k p → h = k
  gen : ∀ h, s.st h ≠ 0 → s.gen (bN h) = opB h
  most : s.nw ≤ 65536 ∧ s.nr ≤ 65536
  wr : wrap64 s.cC = s.cC
/-- a word that may be used -/
def inW (s : Ar) (h off : Int) : Prop := s.st h ≠ 0 ∧ 0 ≤ off ∧ off < zN h
instance (s : Ar) (h off : Int) : Decidable (inW s h off) := by unfold inW; infer_instance
def inR (s : Ar) (i : Int) : Prop := 0 ≤ i ∧ i < s.nr
instance (s : Ar) (i : Int) : Decidable (inR s i) := by unfold inR; infer_instance
def useA (s : Ar) : Ar := { s with uses := wrap64 (s.uses + 1) }
def badA (s : Ar) : Ar := { s with uses := wrap64 (s.uses + 1), bad := true }
def atW (h off : Int) : Nat := bN h + off.toNat
def loadA (s : Ar) (h off : Int) : Ar × Int := if inW s h off then (useA s, s.mem (atW h off)) else (badA s, 0)
def storeA (s : Ar) (h off v : Int) : Ar := if inW s h off then { useA s with mem := upN s.mem (atW h off) v } else badA s
def swapA (s : Ar) (h off old now : Int) : Ar × Bool :=
  if inW s h off then (if s.mem (atW h off) = old then ({ useA s with mem := upN s.mem (atW h off) now }, true) else (useA s, false)) else (badA s, false)
def addA (s : Ar) (h off y : Int) : Ar × Int :=
  if inW s h off then ({ useA s with mem := upN s.mem (atW h off) (wrap64 (s.mem (atW h off) + y)) }, s.mem (atW h off)) else (badA s, 0)
def rawA (s : Ar) (i : Int) : Ar × Int := if inR s i then (useA s, s.raw i.toNat) else (badA s, 0)
def setRawA (s : Ar) (i v : Int) : Ar := if inR s i then { useA s with raw := upN s.raw i.toNat v } else badA s
def swapRawA (s : Ar) (i old now : Int) : Ar × Bool :=
  if inR s i then (if s.raw i.toNat = old then ({ useA s with raw := upN s.raw i.toNat now }, true) else (useA s, false)) else (badA s, false)
def addRawA (s : Ar) (i y : Int) : Ar × Int :=
  if inR s i then ({ useA s with raw := upN s.raw i.toNat (wrap64 (s.raw i.toNat + y)) }, s.raw i.toNat) else (badA s, 0)
/-- how many of n places from a on never were part of a slot -/
def newC (f : Nat → Bool) (a : Nat) : Nat → Nat
  | 0 => 0
  | n + 1 => newC f a n + if f (a + n) = true then 0 else 1
/-- may be born -/
def okB (s : Ar) (h : Int) : Prop := isH h ∧ bN h + zN h ≤ s.nw ∧ s.gen (bN h) < opB h ∧ ∀ p, inS h p → s.tak p = false
def bornS (s : Ar) (h : Int) : Ar :=
  { s with st := upI s.st h 1, gen := upI s.gen (bN h) (opB h),
           was := fun p => if inS h p then true else s.was p,
           tak := fun p => if inS h p then true else s.tak p,
           mem := fun p => if s.fresh = true ∧ inS h p then 0 else s.mem p,
           cC := wrap64 (s.cC + newC s.was (bN h) (zN h)), cL := wrap64 (s.cL + zN h) }
open Classical in
noncomputable def bornA (s : Ar) (h : Int) : Ar × Bool := if okB s h then (bornS s h, true) else (s, false)
def retireS (s : Ar) (h : Int) : Ar := { s with st := upI s.st h 2, cL := wrap64 (s.cL - zN h), cR := wrap64 (s.cR + zN h) }
def retireA (s : Ar) (h : Int) : Ar × Bool := if s.st h = 1 then (retireS s h, true) else (s, false)
def diedS (s : Ar) (h : Int) : Ar := { s with st := upI s.st h 0, tak := fun p => if inS h p then false else s.tak p, cR := wrap64 (s.cR - zN h) }
def diedA (s : Ar) (h : Int) : Ar × Bool := if s.st h = 2 then (diedS s h, true) else (s, false)
theorem Ok9.new (r w : Int) (fresh : Bool) : Ok9 (new9 r w fresh) := by
  refine ⟨fun h hs => absurd rfl hs, fun h p hs => absurd rfl hs, fun p hp => by simp [new9] at hp, fun h k p hs => absurd rfl hs, fun h hs => absurd rfl hs, ⟨?_, ?_⟩, wr64_id (by simp [new9]) (by simp [new9])⟩ <;> simp [new9, cutF] <;> omega
theorem Ok9.same {s t : Ar} (h : Ok9 s) (e1 : t.st = s.st) (e2 : t.nw = s.nw) (e3 : t.tak = s.tak) (e4 : t.gen = s.gen) (e5 : t.nr = s.nr) (e6 : t.cC = s.cC) : Ok9 t :=
  ⟨fun k hk => by rw [e1] at hk ⊢; rw [e2]; exact h.fit k hk, fun k p hk hp => by rw [e1] at hk; rw [e3]; exact h.tak k p hk hp, fun p hp => by rw [e3] at hp; rw [e1]; exact h.free p hp,
    fun a b p ha hb => by rw [e1] at ha hb; exact h.two a b p ha hb, fun k hk => by rw [e1] at hk; rw [e4]; exact h.gen k hk, by rw [e2, e5]; exact h.most, by rw [e6]; exact h.wr⟩
theorem Ok9.born {s : Ar} (h : Ok9 s) {k : Int} (hk : okB s k) : Ok9 (bornS s k) := by
  obtain ⟨k1, k2, k3, k4⟩ := hk
  have hno : ∀ a p, s.st a ≠ 0 → inS a p → ¬ inS k p := fun a p ha hp hq => by
    have := h.tak a p ha hp
    rw [k4 p hq] at this
    cases this
  refine ⟨fun a ha => ?_, fun a p ha hp => ?_, fun p hp => ?_, fun a b p ha hb pa pb => ?_, fun a ha => ?_, h.most, wr64_wr _⟩
  · simp only [bornS] at ha ⊢
    by_cases e : a = k
    · subst e
      rw [upI_same]
      exact ⟨k1, k2, .inl rfl⟩
    · rw [upI_other _ _ e] at ha ⊢
      exact h.fit a ha
  · simp only [bornS] at ha ⊢
    by_cases e : a = k
    · subst e
      rw [if_pos hp]
    · rw [upI_other _ _ e] at ha
      rw [if_neg (hno a p ha hp)]
      exact h.tak a p ha hp
  · simp only [bornS] at hp ⊢
    by_cases e : inS k p
    · exact ⟨k, by rw [upI_same]; decide, e⟩
    · rw [if_neg e] at hp
      obtain ⟨a, ha, hq⟩ := h.free p hp
      have hne : a ≠ k := fun he => e (he ▸ hq)
      exact ⟨a, by rw [upI_other _ _ hne]; exact ha, hq⟩
  · simp only [bornS] at ha hb
    by_cases e : a = k
    · subst e
      by_cases e2 : b = a
      · exact e2.symm
      · rw [upI_other _ _ e2] at hb
        exact absurd pa (hno b p hb pb)
    · rw [upI_other _ _ e] at ha
      by_cases e2 : b = k
      · subst e2
        exact absurd pb (hno a p ha pa)
      · rw [upI_other _ _ e2] at hb
        exact h.two a b p ha hb pa pb
  · simp only [bornS] at ha ⊢
    by_cases e : a = k
    · subst e
      rw [upI_same]
    · rw [upI_other _ _ e] at ha
      have hz := zN_bd a
      have hne : ((bN a : Nat) : Int) ≠ (bN k : Nat) := fun he => hno a (bN a) ha ⟨Nat.le_refl _, by omega⟩ ⟨by omega, by have := zN_bd k; omega⟩
      rw [upI_other _ _ hne]
      exact h.gen a ha
theorem Ok9.retire {s : Ar} (h : Ok9 s) {k : Int} (hk : s.st k ≠ 0) : Ok9 (retireS s k) := by
  have hs : ∀ a, (retireS s k).st a ≠ 0 → s.st a ≠ 0 := fun a ha => by
    simp only [retireS] at ha
    by_cases e : a = k
    · subst e; exact hk
    · rw [upI_other _ _ e] at ha; exact ha
  refine ⟨fun a ha => ?_, fun a p ha => h.tak a p (hs a ha), fun p hp => ?_, fun a b p ha hb => h.two a b p (hs a ha) (hs b hb), fun a ha => h.gen a (hs a ha), h.most, h.wr⟩
  · obtain ⟨x1, x2, x3⟩ := h.fit a (hs a ha)
    refine ⟨x1, x2, ?_⟩
    simp only [retireS]
    by_cases e : a = k
    · subst e; rw [upI_same]; exact .inr rfl
    · rw [upI_other _ _ e]; exact x3
  · obtain ⟨a, ha, hq⟩ := h.free p hp
    refine ⟨a, ?_, hq⟩
    simp only [retireS]
    by_cases e : a = k
    · subst e; rw [upI_same]; decide
    · rw [upI_other _ _ e]; exact ha
theorem Ok9.died {s : Ar} (h : Ok9 s) {k : Int} (hk : s.st k ≠ 0) : Ok9 (diedS s k) := by
  have hs : ∀ a, (diedS s k).st a ≠ 0 → a ≠ k ∧ s.st a ≠ 0 := fun a ha => by
    simp only [diedS] at ha
    by_cases e : a = k
    · subst e; rw [upI_same] at ha; exact absurd rfl ha
    · rw [upI_other _ _ e] at ha; exact ⟨e, ha⟩
  refine ⟨fun a ha => ?_, fun a p ha hp => ?_, fun p hp => ?_, fun a b p ha hb => h.two a b p (hs a ha).2 (hs b hb).2, fun a ha => h.gen a (hs a ha).2, h.most, h.wr⟩
  · obtain ⟨x1, x2, x3⟩ := h.fit a (hs a ha).2
    refine ⟨x1, x2, ?_⟩
    simp only [diedS]
    rw [upI_other _ _ (hs a ha).1]; exact x3
  · obtain ⟨hne, ha⟩ := hs a ha
    simp only [diedS]
    rw [if_neg fun hq => hne (h.two a k p ha hk hp hq)]
    exact h.tak a p ha hp
  · simp only [diedS] at hp ⊢
    by_cases e : inS k p
    · rw [if_pos e] at hp; cases hp
    · rw [if_neg e] at hp
      obtain ⟨a, ha, hq⟩ := h.free p hp
      exact ⟨a, by rw [upI_other _ _ (show a ≠ k from fun he => e (by rw [← he]; exact hq))]; exact ha, hq⟩
theorem newC_le (f : Nat → Bool) (a : Nat) : ∀ n, newC f a n ≤ n
  | 0 => Nat.le_refl _
  | n + 1 => by
    have := newC_le f a n
    unfold newC
    split <;> omega
/-- words of two slots that are not dead are two -/
theorem places_apart {s : Ar} (ha : Ok9 s) {h k i j : Int} (h1 : inW s h i) (h2 : inW s k j) (hne : h ≠ k) : atW h i ≠ atW k j := by
  obtain ⟨a1, a2, a3⟩ := h1
  obtain ⟨b1, b2, b3⟩ := h2
  unfold atW
  intro e
  exact hne (ha.two h k (bN h + i.toNat) a1 b1 ⟨by omega, by omega⟩ ⟨by omega, by omega⟩)
theorem atW_in {h i : Int} (h0 : 0 ≤ i) (h1 : i < zN h) : inS h (atW h i) := ⟨by unfold atW; omega, by unfold atW; omega⟩
theorem atW_inj {h i j : Int} (h0 : 0 ≤ i) (h1 : 0 ≤ j) (e : atW h i = atW h j) : i = j := by unfold atW at e; omega
end Go.Proofs.YtiedoeifpmfbbaaDoor.A9
