/-
  Helpers: H8Ha, H8Hb, H8Hc.
-/
import Derived.Test.YtopnkfbcphbbiaaDoorRows
import Derived.WalkKit
import Derived.Below
import Derived.Deep.QuietTactic
import Derived.BigQuiet
import Derived.Laws.BitsLemmas
namespace Go.Proofs.YtopnkfbcphbbiaaDoor.H8
open Go.RowKit

theorem ret_i64 {a b : Int} (h : a = b) : Ending.returned (.int .i64 a) = .returned (.int .i64 b) := by rw [h]
/-- what may be packed -/
def okP (a b c : Int) : Prop := 0 ≤ a ∧ a ≤ 65535 ∧ 1 ≤ b ∧ b ≤ 1073741823 ∧ 0 ≤ c ∧ c ≤ 3
instance (a b c : Int) : Decidable (okP a b c) := by unfold okP; infer_instance
def packV (a b c : Int) : Int := 1125899906842624 + a * 4294967296 + b * 4 + c
def packF (a b c : Int) : Int := if okP a b c then packV a b c else 0
theorem packF_ok {a b c : Int} (h : okP a b c) : packF a b c = packV a b c := if_pos h
theorem packF_no {a b c : Int} (h : ¬ okP a b c) : packF a b c = 0 := if_neg h
def opA (h : Int) : Int := h / 4294967296 % 65536
def opB (h : Int) : Int := h / 4 % 1073741824
def opC (h : Int) : Int := h % 4
/-- is a name -/
def isH (h : Int) : Prop := ∃ a b c, okP a b c ∧ h = packV a b c
theorem open_pack {a b c : Int} (h : okP a b c) : opA (packV a b c) = a ∧ opB (packV a b c) = b ∧ opC (packV a b c) = c := by
  obtain ⟨h1, h2, h3, h4, h5, h6⟩ := h
  unfold opA opB opC packV
  omega
theorem pack_pos {a b c : Int} (h : okP a b c) : 1125899906842624 < packV a b c ∧ packV a b c < 1407374883553280 := by
  obtain ⟨h1, h2, h3, h4, h5, h6⟩ := h
  unfold packV
  omega
theorem pack_inj {a b c a' b' c' : Int} (h : okP a b c) (h' : okP a' b' c') (e : packV a b c = packV a' b' c') : a = a' ∧ b = b' ∧ c = c' := by
  obtain ⟨x1, x2, x3⟩ := open_pack h
  obtain ⟨y1, y2, y3⟩ := open_pack h'
  rw [e] at x1 x2 x3
  exact ⟨x1.symm.trans y1, x2.symm.trans y2, x3.symm.trans y3⟩
theorem not_name {h : Int} (hn : ¬ isH h) : packF (opA h) (opB h) (opC h) = 0 ∨ packF (opA h) (opB h) (opC h) ≠ h := by
  by_cases ho : okP (opA h) (opB h) (opC h)
  · refine .inr fun e => hn ⟨_, _, _, ho, ?_⟩
    rw [packF_ok ho] at e
    exact e.symm
  · exact .inl (packF_no ho)
theorem not_name_bd {h : Int} (hb : h ≤ 1125899906842624 ∨ 1407374883553280 ≤ h) : ¬ isH h := by
  rintro ⟨a, b, c, ho, rfl⟩
  have := pack_pos ho
  omega
theorem not_name_gen {a c : Int} (h1 : 0 ≤ c) (h2 : c ≤ 3) : ¬ isH (1125899906842624 + a * 4294967296 + c) := by
  rintro ⟨a', b', c', ho, e⟩
  obtain ⟨k1, k2, k3, k4, k5, k6⟩ := ho
  unfold packV at e
  omega
/-- a class's size -/
def szT : List Int := [8, 16, 32, 64]
def sizeF (c : Int) : Int := if 0 ≤ c ∧ c < 4 then szT.getD c.toNat 0 else 0
def fdT : List Int := [32, 0, 65535, 2, 1, 1073741823, 0, 0, 3]
structure HTab (w : World) : Prop where
  sz : ∀ i : Nat, i < 4 → w.cell? ⟨0, i, none⟩ = some (.int .i64 (szT.getD i 0))
  fd : ∀ i : Nat, i < 9 → w.cell? ⟨1, i, none⟩ = some (.int .i64 (fdT.getD i 0))
theorem HTab.pos {w : World} (h : HTab w) : 0 < w.heap.size ∧ 1 < w.heap.size := ⟨block_lt_of_cell (h.sz 0 (by omega)), block_lt_of_cell (h.fd 0 (by omega))⟩
theorem HTab.below {w w' : World} (h : HTab w) (hb : Below w.heap.size w w') : HTab w' :=
  ⟨fun i hi => by rw [hb.cell (p := ⟨0, i, none⟩) h.pos.1]; exact h.sz i hi, fun i hi => by rw [hb.cell (p := ⟨1, i, none⟩) h.pos.2]; exact h.fd i hi⟩
theorem HTab.alloc {w : World} (h : HTab w) (o : Obj) : HTab (w.alloc o) := h.below ((Below.refl _ _).alloc (Nat.le_refl _) o)
theorem HTab.drewN {w : World} (h : HTab w) (n : Nat) : HTab (w.drewN n) := ⟨h.sz, h.fd⟩
theorem sizeF_no {c : Int} (h : c < 0 ∨ 4 ≤ c) : sizeF c = 0 := by unfold sizeF; rw [if_neg (by omega)]
theorem sizeF_yes {c : Int} (h1 : 0 ≤ c) (h2 : c < 4) : sizeF c = szT.getD c.toNat 0 := by unfold sizeF; rw [if_pos ⟨h1, h2⟩]
theorem Size_any (c : Int) (w : World) (hT : HTab w) : Calls Tryd.prog 45 #[.int .i64 c] w fun e w' => e = .returned (.int .i64 (sizeF c)) ∧ w' = w := by
  by_cases h0 : c < 0
  · have hd : decide (c < 0) = true := by simpa using h0
    rw [sizeF_no (.inl h0)]
    go_enter Tryd.func45, Tryd.ntmps45
    go_wp2
    go_ret
    exact ⟨rfl, rfl⟩
  · have hd : decide (c < 0) = false := by simpa using h0
    by_cases h4 : 4 ≤ c
    · have hd4 : decide (4 ≤ c) = true := by simpa using h4
      rw [sizeF_no (.inr h4)]
      go_enter Tryd.func45, Tryd.ntmps45
      go_wp2
      go_ret
      exact ⟨rfl, rfl⟩
    · have hd4 : decide (4 ≤ c) = false := by simpa using h4
      have hc := hT.sz c.toNat (by omega)
      rw [sizeF_yes (by omega) (by omega)]
      go_enter Tryd.func45, Tryd.ntmps45
      go_wp2
      go_ret
      exact ⟨rfl, rfl⟩
/-- both parts of a number side by side -/
theorem or_low (i : Nat) (x y : Int) (hx₀ : 0 ≤ x) (hx : x % 2 ^ i = 0) (hx₁ : x < 2 ^ 62) (hy₀ : 0 ≤ y) (hy : y < 2 ^ i) (hy₁ : y < 2 ^ 62) : bits .or .i64 x y = x + y :=
  bits_join .i64 62 (by decide) (fun n h0 h1 => by rw [IntKind.wrap_i64]; omega) i x y hx₀ hx hx₁ hy₀ hy hy₁
theorem and_mask (j : Nat) (m : Int) (n : Int) (hj : j ≤ 62) (hm : m = 2 ^ j - 1) : bits .and .i64 n m = n % 2 ^ j := by
  have hp : (2 : Nat) ^ j ≤ 2 ^ 62 := Nat.pow_le_pow_right (by omega) hj
  have hp0 : 0 < (2 : Nat) ^ j := Nat.pow_pos (by omega)
  have e : (2 : Int) ^ j = ((2 ^ j : Nat) : Int) := by simp
  have hm2 : (BitVec.ofInt 64 m).toNat = 2 ^ j - 1 := by rw [BitVec.toNat_ofInt, hm, e]; omega
  have key : (BitVec.ofInt 64 n &&& BitVec.ofInt 64 m).toNat = (n % ((2 ^ 64 : Nat) : Int)).toNat % 2 ^ j := by
    rw [BitVec.toNat_and, BitVec.toNat_ofInt, hm2, Nat.and_two_pow_sub_one_eq_mod]
  show IntKind.i64.wrap ((BitVec.ofInt 64 n &&& BitVec.ofInt 64 m).toNat : Nat) = n % 2 ^ j
  have hd : ((2 ^ j : Nat) : Int) ∣ ((2 ^ 64 : Nat) : Int) := by
    refine Int.natCast_dvd_natCast.2 (Nat.pow_dvd_pow 2 (by omega))
  have h1 : (((n % ((2 ^ 64 : Nat) : Int)).toNat % 2 ^ j : Nat) : Int) = n % ((2 ^ j : Nat) : Int) := by
    rw [Int.natCast_emod, Int.toNat_of_nonneg (Int.emod_nonneg _ (by decide)), Int.emod_emod_of_dvd _ hd]
  rw [key, h1, IntKind.wrap_i64, e]
  have b1 := Int.emod_nonneg n (b := ((2 ^ j : Nat) : Int)) (by omega)
  have b2 := Int.emod_lt_of_pos n (b := ((2 ^ j : Nat) : Int)) (by omega)
  have b3 : ((2 ^ j : Nat) : Int) ≤ ((2 ^ 62 : Nat) : Int) := by exact_mod_cast hp
  have b4 : ((2 ^ 62 : Nat) : Int) = 4611686018427387904 := by decide
  omega
theorem and65535 (n : Int) : bits .and .i64 n 65535 = n % 65536 := and_mask 16 _ n (by omega) (by decide)
theorem and1073741823 (n : Int) : bits .and .i64 n 1073741823 = n % 1073741824 := and_mask 30 _ n (by omega) (by decide)
theorem and3 (n : Int) : bits .and .i64 n 3 = n % 4 := and_mask 2 _ n (by omega) (by decide)
end Go.Proofs.YtopnkfbcphbbiaaDoor.H8
namespace Go.Proofs.YtopnkfbcphbbiaaDoor.H8
open Go.RowKit

def hP (a b c : Int) (k : Nat) : Int := if k = 0 then 1125899906842624 else if k = 1 then 1125899906842624 + a * 4294967296 else if k = 2 then 1125899906842624 + a * 4294967296 + b * 4 else packV a b c
def okK (a b c : Int) (k : Nat) : Prop := (0 < k → 0 ≤ a ∧ a ≤ 65535) ∧ (1 < k → 1 ≤ b ∧ b ≤ 1073741823) ∧ (2 < k → 0 ≤ c ∧ c ≤ 3)
theorem okK_all {a b c : Int} (h : okK a b c 3) : okP a b c := by
  obtain ⟨h1, h2, h3⟩ := h
  obtain ⟨a1, a2⟩ := h1 (by omega)
  obtain ⟨b1, b2⟩ := h2 (by omega)
  obtain ⟨c1, c2⟩ := h3 (by omega)
  exact ⟨a1, a2, b1, b2, c1, c2⟩
set_option maxHeartbeats 1000000 in
theorem Pack_any (a b c : Int) (w : World) (hT : HTab w) : Calls Tryd.prog 61 #[.int .i64 a, .int .i64 b, .int .i64 c] w fun e w' => e = .returned (.int .i64 (packF a b c)) ∧ Below w.heap.size w w' := by
  have hp := hT.pos
  have hp1 := hp.1
  have hp2 := hp.2
  clear hp
  go_enter Tryd.func61, Tryd.ntmps61
  go_wp2_with fail
  go_loopw [7, 15] (fun hv kv wr => ∃ k : Nat, k ≤ 3 ∧ kv = .int .i64 k ∧ okK a b c k ∧ hv = .int .i64 (hP a b c k) ∧ HTab wr ∧ Below w.heap.size w wr) (fun _ kv _ => 3 - (intOf kv).toNat)
  case atStart => exact ⟨0, by omega, rfl, ⟨by omega, by omega, by omega⟩, rfl, hT, Below.refl _ _⟩
  case round =>
    obtain ⟨k, hk, rfl, hok, rfl, hTr, hB⟩ := hrel
    rcases (by omega : k = 0 ∨ k = 1 ∨ k = 2 ∨ k = 3) with rfl | rfl | rfl | rfl
    · have f0 : wr.cell? ⟨1, 0, none⟩ = some (.int .i64 32) := hTr.fd 0 (by omega)
      have f1 : wr.cell? ⟨1, 1, none⟩ = some (.int .i64 0) := hTr.fd 1 (by omega)
      have f2 : wr.cell? ⟨1, 2, none⟩ = some (.int .i64 65535) := hTr.fd 2 (by omega)
      have hx : ∀ wx : World, (Instr.index 109 (.agg #[.int .i64 a, .int .i64 b, .int .i64 c]) (.int .i64 0)).run Tryd.prog wx = .ok (.int .i64 a) wx := fun _ => by kernel_rfl
      rw [show hP a b c 0 = 1125899906842624 from rfl]
      by_cases h0 : a < 0
      · have hd : decide (a < 0) = true := by simpa using h0
        have hn := packF_no (a := a) (b := b) (c := c) (fun h => by have := h.1; have := h.2.1; omega)
        clear hok
        go_wp2_with fail
        go_ret
        first | exact ⟨ret_i64 hn.symm, hB.alloc hB.size _⟩ | exact ⟨rfl, hB.alloc hB.size _⟩
      · have hd : decide (a < 0) = false := by simpa using h0
        by_cases h1 : 65535 < a
        · have hd1 : decide (65535 < a) = true := by simpa using h1
          have hn := packF_no (a := a) (b := b) (c := c) (fun h => by have := h.1; have := h.2.1; omega)
          clear hok
          go_wp2_with fail
          go_ret
          first | exact ⟨ret_i64 hn.symm, hB.alloc hB.size _⟩ | exact ⟨rfl, hB.alloc hB.size _⟩
        · have hd1 : decide (65535 < a) = false := by simpa using h1
          have ho : bits .or .i64 (1125899906842624) (a * 4294967296) = hP a b c 1 := or_low 48 _ _ (by omega) (by omega) (by omega) (by omega) (by omega) (by omega)
          have hnext : okK a b c 1 := ⟨fun _ => ⟨by omega, by omega⟩, by omega, by omega⟩
          clear hok
          go_wp2_with fail
          go_roundw
          case rel => exact ⟨1, by omega, by go_num, hnext, rfl, hTr.alloc _, hB.alloc hB.size _⟩
          case measure => simp [intOf]
    · have f0 : wr.cell? ⟨1, 3, none⟩ = some (.int .i64 2) := hTr.fd 3 (by omega)
      have f1 : wr.cell? ⟨1, 4, none⟩ = some (.int .i64 1) := hTr.fd 4 (by omega)
      have f2 : wr.cell? ⟨1, 5, none⟩ = some (.int .i64 1073741823) := hTr.fd 5 (by omega)
      have hx : ∀ wx : World, (Instr.index 109 (.agg #[.int .i64 a, .int .i64 b, .int .i64 c]) (.int .i64 1)).run Tryd.prog wx = .ok (.int .i64 b) wx := fun _ => by kernel_rfl
      rw [show hP a b c 1 = 1125899906842624 + a * 4294967296 from rfl]
      have ha := hok.1 (by omega)
      by_cases h0 : b < 1
      · have hd : decide (b < 1) = true := by simpa using h0
        have hn := packF_no (a := a) (b := b) (c := c) (fun h => by have := h.2.2.1; have := h.2.2.2.1; omega)
        clear hok
        go_wp2_with fail
        go_ret
        first | exact ⟨ret_i64 hn.symm, hB.alloc hB.size _⟩ | exact ⟨rfl, hB.alloc hB.size _⟩
      · have hd : decide (b < 1) = false := by simpa using h0
        by_cases h1 : 1073741823 < b
        · have hd1 : decide (1073741823 < b) = true := by simpa using h1
          have hn := packF_no (a := a) (b := b) (c := c) (fun h => by have := h.2.2.1; have := h.2.2.2.1; omega)
          clear hok
          go_wp2_with fail
          go_ret
          first | exact ⟨ret_i64 hn.symm, hB.alloc hB.size _⟩ | exact ⟨rfl, hB.alloc hB.size _⟩
        · have hd1 : decide (1073741823 < b) = false := by simpa using h1
          have ho : bits .or .i64 (1125899906842624 + a * 4294967296) (b * 4) = hP a b c 2 := or_low 32 _ _ (by omega) (by omega) (by omega) (by omega) (by omega) (by omega)
          have hnext : okK a b c 2 := ⟨fun _ => ha, fun _ => ⟨by omega, by omega⟩, by omega⟩
          clear hok
          go_wp2_with fail
          go_roundw
          case rel => exact ⟨2, by omega, by go_num, hnext, rfl, hTr.alloc _, hB.alloc hB.size _⟩
          case measure => simp [intOf]
    · have f0 : wr.cell? ⟨1, 6, none⟩ = some (.int .i64 0) := hTr.fd 6 (by omega)
      have f1 : wr.cell? ⟨1, 7, none⟩ = some (.int .i64 0) := hTr.fd 7 (by omega)
      have f2 : wr.cell? ⟨1, 8, none⟩ = some (.int .i64 3) := hTr.fd 8 (by omega)
      have hx : ∀ wx : World, (Instr.index 109 (.agg #[.int .i64 a, .int .i64 b, .int .i64 c]) (.int .i64 2)).run Tryd.prog wx = .ok (.int .i64 c) wx := fun _ => by kernel_rfl
      rw [show hP a b c 2 = 1125899906842624 + a * 4294967296 + b * 4 from rfl]
      have ha := hok.1 (by omega)
      have hb2 := hok.2.1 (by omega)
      by_cases h0 : c < 0
      · have hd : decide (c < 0) = true := by simpa using h0
        have hn := packF_no (a := a) (b := b) (c := c) (fun h => by have := h.2.2.2.2.1; have := h.2.2.2.2.2; omega)
        clear hok
        go_wp2_with fail
        go_ret
        first | exact ⟨ret_i64 hn.symm, hB.alloc hB.size _⟩ | exact ⟨rfl, hB.alloc hB.size _⟩
      · have hd : decide (c < 0) = false := by simpa using h0
        by_cases h1 : 3 < c
        · have hd1 : decide (3 < c) = true := by simpa using h1
          have hn := packF_no (a := a) (b := b) (c := c) (fun h => by have := h.2.2.2.2.1; have := h.2.2.2.2.2; omega)
          clear hok
          go_wp2_with fail
          go_ret
          first | exact ⟨ret_i64 hn.symm, hB.alloc hB.size _⟩ | exact ⟨rfl, hB.alloc hB.size _⟩
        · have hd1 : decide (3 < c) = false := by simpa using h1
          have ho : bits .or .i64 (1125899906842624 + a * 4294967296 + b * 4) c = packV a b c := or_low 2 (1125899906842624 + a * 4294967296 + b * 4) c (by omega) (by omega) (by omega) (by omega) (by omega) (by omega)
          have hnext : okK a b c 3 := ⟨fun _ => ha, fun _ => hb2, fun _ => ⟨by omega, by omega⟩⟩
          clear hok
          go_wp2_with fail
          go_roundw
          case rel => exact ⟨3, by omega, by go_num, hnext, rfl, hTr.alloc _, hB.alloc hB.size _⟩
          case measure => simp [intOf]
    · have hn := packF_ok (okK_all hok)
      clear hok
      rw [show hP a b c 3 = packV a b c from rfl]
      go_wp2_with fail
      go_ret
      first | exact ⟨ret_i64 hn.symm, hB⟩ | exact ⟨rfl, hB⟩
end Go.Proofs.YtopnkfbcphbbiaaDoor.H8
namespace Go.Proofs.YtopnkfbcphbbiaaDoor.H8
open Go.RowKit

/-- what Open answers -/
def opnV (h : Int) : Value := if h ≠ 0 ∧ packF (opA h) (opB h) (opC h) = h then .tuple #[.int .i64 (opA h), .int .i64 (opB h), .int .i64 (opC h), .bool true] else .tuple #[.int .i64 0, .int .i64 0, .int .i64 0, .bool false]
theorem opnV_yes {a b c : Int} (h : okP a b c) : opnV (packV a b c) = .tuple #[.int .i64 a, .int .i64 b, .int .i64 c, .bool true] := by
  obtain ⟨h1, h2, h3⟩ := open_pack h
  have h4 := pack_pos h
  unfold opnV
  rw [h1, h2, h3, packF_ok h, if_pos ⟨by omega, rfl⟩]
theorem opnV_no {h : Int} (hn : ¬ isH h) : opnV h = .tuple #[.int .i64 0, .int .i64 0, .int .i64 0, .bool false] := by
  unfold opnV
  refine if_neg fun hh => ?_
  rcases not_name hn with h0 | h0
  · rw [h0] at hh
    exact hh.1 hh.2.symm
  · exact h0 hh.2
def opX (h : Int) (k : Nat) : Int := if 0 < k then opA h else 0
def opY (h : Int) (k : Nat) : Int := if 1 < k then opB h else 0
def opZ (h : Int) (k : Nat) : Int := if 2 < k then opC h else 0
theorem below_drewN {B : Nat} {a w : World} (h : Below B a w) (n : Nat) : Below B a (w.drewN n) := ⟨h.os, h.tape, h.output, h.size, h.block⟩
set_option maxHeartbeats 1000000 in
theorem Open_any (h : Int) (w : World) (hT : HTab w) : Calls Tryd.prog 63 #[.int .i64 h] w fun e w' => e = .returned (opnV h) ∧ Below w.heap.size w w' := by
  have hp := hT.pos
  have hp1 := hp.1
  have hp2 := hp.2
  clear hp
  have hA : bits .and .i64 (h / 4294967296) 65535 = opA h := and65535 _
  have hBb : bits .and .i64 (h / 4) 1073741823 = opB h := and1073741823 _
  have hC : bits .and .i64 h 3 = opC h := and3 _
  have g0 : w.cell? ⟨1, 0, none⟩ = some (.int .i64 32) := hT.fd 0 (by omega)
  have g1 : w.cell? ⟨1, 1, none⟩ = some (.int .i64 0) := hT.fd 1 (by omega)
  have g2 : w.cell? ⟨1, 2, none⟩ = some (.int .i64 65535) := hT.fd 2 (by omega)
  have g3 : w.cell? ⟨1, 3, none⟩ = some (.int .i64 2) := hT.fd 3 (by omega)
  have g4 : w.cell? ⟨1, 4, none⟩ = some (.int .i64 1) := hT.fd 4 (by omega)
  have g5 : w.cell? ⟨1, 5, none⟩ = some (.int .i64 1073741823) := hT.fd 5 (by omega)
  have g6 : w.cell? ⟨1, 6, none⟩ = some (.int .i64 0) := hT.fd 6 (by omega)
  have g7 : w.cell? ⟨1, 7, none⟩ = some (.int .i64 0) := hT.fd 7 (by omega)
  have g8 : w.cell? ⟨1, 8, none⟩ = some (.int .i64 3) := hT.fd 8 (by omega)
  go_enter Tryd.func63, Tryd.ntmps63
  go_wp2_with fail
  go_loopw [10] (fun kv wr => ∃ k : Nat, k ≤ 3 ∧ kv = .int .i64 k ∧ wr.heap[w.heap.size]? = some (.cells #[.int .i64 (opX h k), .int .i64 (opY h k), .int .i64 (opZ h k)] 109 (0, 0)) ∧ Below w.heap.size w wr) (fun kv _ => 3 - (intOf kv).toNat)
  case atStart => exact ⟨0, by omega, rfl, heap_alloc_new _ _, (Below.refl _ _).alloc (Nat.le_refl _) _⟩
  case round =>
    obtain ⟨k, hk, rfl, hbox, hB⟩ := hrel
    rcases (by omega : k = 0 ∨ k = 1 ∨ k = 2 ∨ k = 3) with rfl | rfl | rfl | rfl
    · have hx : ∀ wx : World, (Instr.index 112 (.agg #[.int .i64 32, .int .i64 0, .int .i64 65535, .int .i64 2, .int .i64 1, .int .i64 1073741823, .int .i64 0, .int .i64 0, .int .i64 3]) (.int .i64 0)).run Tryd.prog wx = .ok (.agg #[.int .i64 32, .int .i64 0, .int .i64 65535]) wx := fun _ => by kernel_rfl
      have hbx : wr.heap[w.heap.size]? = some (.cells #[.int .i64 0, .int .i64 0, .int .i64 0] 109 (0, 0)) := hbox
      have hlt : w.heap.size < wr.heap.size := lt_of_block hbx
      have hc := fun o => cell_of_row (wr.alloc o) w.heap.size 0 _ _ _ ((Below.heap_alloc wr o _ hlt).trans hbx)
      have hf := fun o => frozen_of_row (wr.alloc o) w.heap.size 0 _ _ ((Below.heap_alloc wr o _ hlt).trans hbx)
      have hs := hB.setCell (p := ⟨w.heap.size, 0, none⟩) (Nat.le_refl _) (.int .i64 (opA h))
      have hlt2 : w.heap.size < (wr.setCell ⟨w.heap.size, 0, none⟩ (.int .i64 (opA h))).heap.size := by simpa using hlt
      have hn := fun o => (Below.heap_alloc (wr.setCell ⟨w.heap.size, 0, none⟩ (.int .i64 (opA h))) o _ hlt2).trans (heap_setCell_same wr w.heap.size 0 _ _ (.int .i64 (opA h)) hbx)
      have hne : ¬ w.heap.size = wr.heap.size := by omega
      have hne2 : ¬ wr.heap.size = w.heap.size := by omega
      clear hbox hbx g0 g1 g2 g3 g4 g5 g6 g7 g8
      go_wp2_with fail
      go_region
      go_wp2_with fail
      go_roundw
      case rel => exact ⟨1, by omega, by go_num, hn _, (hs.alloc hs.size _).drew⟩
      case measure => simp [intOf]
    · have hx : ∀ wx : World, (Instr.index 112 (.agg #[.int .i64 32, .int .i64 0, .int .i64 65535, .int .i64 2, .int .i64 1, .int .i64 1073741823, .int .i64 0, .int .i64 0, .int .i64 3]) (.int .i64 1)).run Tryd.prog wx = .ok (.agg #[.int .i64 2, .int .i64 1, .int .i64 1073741823]) wx := fun _ => by kernel_rfl
      have hbx : wr.heap[w.heap.size]? = some (.cells #[.int .i64 (opA h), .int .i64 0, .int .i64 0] 109 (0, 0)) := hbox
      have hlt : w.heap.size < wr.heap.size := lt_of_block hbx
      have hc := fun o => cell_of_row (wr.alloc o) w.heap.size 1 _ _ _ ((Below.heap_alloc wr o _ hlt).trans hbx)
      have hf := fun o => frozen_of_row (wr.alloc o) w.heap.size 1 _ _ ((Below.heap_alloc wr o _ hlt).trans hbx)
      have hs := hB.setCell (p := ⟨w.heap.size, 1, none⟩) (Nat.le_refl _) (.int .i64 (opB h))
      have hlt2 : w.heap.size < (wr.setCell ⟨w.heap.size, 1, none⟩ (.int .i64 (opB h))).heap.size := by simpa using hlt
      have hn := fun o => (Below.heap_alloc (wr.setCell ⟨w.heap.size, 1, none⟩ (.int .i64 (opB h))) o _ hlt2).trans (heap_setCell_same wr w.heap.size 1 _ _ (.int .i64 (opB h)) hbx)
      have hne : ¬ w.heap.size = wr.heap.size := by omega
      have hne2 : ¬ wr.heap.size = w.heap.size := by omega
      clear hbox hbx g0 g1 g2 g3 g4 g5 g6 g7 g8
      go_wp2_with fail
      go_region
      go_wp2_with fail
      go_roundw
      case rel => exact ⟨2, by omega, by go_num, hn _, (hs.alloc hs.size _).drew⟩
      case measure => simp [intOf]
    · have hx : ∀ wx : World, (Instr.index 112 (.agg #[.int .i64 32, .int .i64 0, .int .i64 65535, .int .i64 2, .int .i64 1, .int .i64 1073741823, .int .i64 0, .int .i64 0, .int .i64 3]) (.int .i64 2)).run Tryd.prog wx = .ok (.agg #[.int .i64 0, .int .i64 0, .int .i64 3]) wx := fun _ => by kernel_rfl
      have hbx : wr.heap[w.heap.size]? = some (.cells #[.int .i64 (opA h), .int .i64 (opB h), .int .i64 0] 109 (0, 0)) := hbox
      have hlt : w.heap.size < wr.heap.size := lt_of_block hbx
      have hc := fun o => cell_of_row (wr.alloc o) w.heap.size 2 _ _ _ ((Below.heap_alloc wr o _ hlt).trans hbx)
      have hf := fun o => frozen_of_row (wr.alloc o) w.heap.size 2 _ _ ((Below.heap_alloc wr o _ hlt).trans hbx)
      have hs := hB.setCell (p := ⟨w.heap.size, 2, none⟩) (Nat.le_refl _) (.int .i64 (opC h))
      have hlt2 : w.heap.size < (wr.setCell ⟨w.heap.size, 2, none⟩ (.int .i64 (opC h))).heap.size := by simpa using hlt
      have hn := fun o => (Below.heap_alloc (wr.setCell ⟨w.heap.size, 2, none⟩ (.int .i64 (opC h))) o _ hlt2).trans (heap_setCell_same wr w.heap.size 2 _ _ (.int .i64 (opC h)) hbx)
      have hne : ¬ w.heap.size = wr.heap.size := by omega
      have hne2 : ¬ wr.heap.size = w.heap.size := by omega
      clear hbox hbx g0 g1 g2 g3 g4 g5 g6 g7 g8
      go_wp2_with fail
      go_region
      go_wp2_with fail
      go_roundw
      case rel => exact ⟨3, by omega, by go_num, hn _, (hs.alloc hs.size _).drew⟩
      case measure => simp [intOf]
    · have hbx : wr.heap[w.heap.size]? = some (.cells #[.int .i64 (opA h), .int .i64 (opB h), .int .i64 (opC h)] 109 (0, 0)) := hbox
      have c0 : wr.cell? ⟨w.heap.size, 0, none⟩ = some (.int .i64 (opA h)) := cell_of_row _ _ _ _ _ _ hbx
      have c1 : wr.cell? ⟨w.heap.size, 1, none⟩ = some (.int .i64 (opB h)) := cell_of_row _ _ _ _ _ _ hbx
      have c2 : wr.cell? ⟨w.heap.size, 2, none⟩ = some (.int .i64 (opC h)) := cell_of_row _ _ _ _ _ _ hbx
      have hTr := hT.below hB
      have HP : Hid (∀ m, Calls Tryd.prog 61 #[.int .i64 (opA h), .int .i64 (opB h), .int .i64 (opC h)] (wr.drewN m) fun e w' => e = .returned (.int .i64 (packF (opA h) (opB h) (opC h))) ∧ Below wr.heap.size wr w') := fun m => (Pack_any (opA h) (opB h) (opC h) (wr.drewN m) (hTr.drewN m)).mono fun e w' hh => ⟨hh.1, (below_drewN (Below.refl wr.heap.size wr) m).trans hh.2⟩
      clear hbox hbx g0 g1 g2 g3 g4 g5 g6 g7 g8 hA hBb hC hTr
      by_cases h0 : h = 0
      · have hno : opnV h = .tuple #[.int .i64 0, .int .i64 0, .int .i64 0, .bool false] := by unfold opnV; rw [if_neg (fun hh => hh.1 h0)]
        have HN : Hid (Ending.returned (opnV h) = .returned (.tuple #[.int .i64 0, .int .i64 0, .int .i64 0, .bool false])) := by show _ = _; rw [hno]
        clear hno
        have h0b : (h == 0) = true := by simpa using h0
        clear h0
        go_wp2_with fail
        go_quiet (fail)
        go_wp2_with fail
        exact bodyPost_ret (v := .tuple #[.int .i64 0, .int .i64 0, .int .i64 0, .bool false]) (by simp [results, Tryd.results63, go_sem]) rfl ⟨HN.out.symm, below_drewN hB _⟩
      · have h0b : (h == 0) = false := by simpa using h0
        by_cases h1 : packF (opA h) (opB h) (opC h) = h
        · have hyes : opnV h = .tuple #[.int .i64 (opA h), .int .i64 (opB h), .int .i64 (opC h), .bool true] := by unfold opnV; rw [if_pos ⟨h0, h1⟩]
          have HN : Hid (Ending.returned (opnV h) = .returned (.tuple #[.int .i64 (opA h), .int .i64 (opB h), .int .i64 (opC h), .bool true])) := by show _ = _; rw [hyes]
          have h1b : (packF (opA h) (opB h) (opC h) != h) = false := by simpa using h1
          clear hyes h1
          generalize packF (opA h) (opB h) (opC h) = pf at *
          go_wp2_with fail
          go_quiet (fail)
          go_wp2_with fail
          refine (HP.out _).mono ?_
          rintro e w1 ⟨rfl, hb1⟩
          go_wp2_with fail
          exact bodyPost_ret (v := .tuple #[.int .i64 (opA h), .int .i64 (opB h), .int .i64 (opC h), .bool true]) (by simp [results, Tryd.results63, go_sem]) rfl ⟨HN.out.symm, hB.trans (hb1.mono hB.size)⟩
        · have hno : opnV h = .tuple #[.int .i64 0, .int .i64 0, .int .i64 0, .bool false] := by unfold opnV; rw [if_neg (fun hh => h1 hh.2)]
          have HN : Hid (Ending.returned (opnV h) = .returned (.tuple #[.int .i64 0, .int .i64 0, .int .i64 0, .bool false])) := by show _ = _; rw [hno]
          have h1b : (packF (opA h) (opB h) (opC h) != h) = true := by simpa using h1
          clear hno h1
          generalize packF (opA h) (opB h) (opC h) = pf at *
          go_wp2_with fail
          go_quiet (fail)
          go_wp2_with fail
          refine (HP.out _).mono ?_
          rintro e w1 ⟨rfl, hb1⟩
          go_wp2_with fail
          exact bodyPost_ret (v := .tuple #[.int .i64 0, .int .i64 0, .int .i64 0, .bool false]) (by simp [results, Tryd.results63, go_sem]) rfl ⟨HN.out.symm, hB.trans (hb1.mono hB.size)⟩
end Go.Proofs.YtopnkfbcphbbiaaDoor.H8
