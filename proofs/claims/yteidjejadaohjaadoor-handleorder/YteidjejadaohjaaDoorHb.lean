/-
  Pack.
-/
import Derived.Test.YteidjejadaohjaaDoorHa
namespace Go.Proofs.YteidjejadaohjaaDoor
open Go.RowKit

def hP (a b c : Int) (k : Nat) : Int := if k = 0 then 1125899906842624 else if k = 1 then 1125899906842624 + a * 4294967296 else if k = 2 then 1125899906842624 + a * 4294967296 + b * 4 else packV a b c
def okK (a b c : Int) (k : Nat) : Prop := (0 < k → 0 ≤ a ∧ a ≤ 65535) ∧ (1 < k → 1 ≤ b ∧ b ≤ 1073741823) ∧ (2 < k → 0 ≤ c ∧ c ≤ 3)
theorem okK_all {a b c : Int} (h : okK a b c 3) : okP a b c := by
  obtain ⟨h1, h2, h3⟩ := h
  obtain ⟨a1, a2⟩ := h1 (by omega)
  obtain ⟨b1, b2⟩ := h2 (by omega)
  obtain ⟨c1, c2⟩ := h3 (by omega)
  exact ⟨a1, a2, b1, b2, c1, c2⟩
set_option maxHeartbeats 1000000 in
theorem Pack_any (a b c : Int) (w : World) (hT : HTab w) : Calls Tryd.prog 7 #[.int .i64 a, .int .i64 b, .int .i64 c] w fun e w' => e = .returned (.int .i64 (packF a b c)) ∧ Below w.heap.size w w' := by
  have hp := hT.pos
  have hp1 := hp.1
  have hp2 := hp.2
  clear hp
  go_enter Tryd.func7, Tryd.ntmps7
  go_wp2_with fail
  go_loopw [7, 15] (fun hv kv wr => ∃ k : Nat, k ≤ 3 ∧ kv = .int .i64 k ∧ okK a b c k ∧ hv = .int .i64 (hP a b c k) ∧ HTab wr ∧ Below w.heap.size w wr) (fun _ kv _ => 3 - (intOf kv).toNat)
  case atStart => exact ⟨0, by omega, rfl, ⟨by omega, by omega, by omega⟩, rfl, hT, Below.refl _ _⟩
  case round =>
    obtain ⟨k, hk, rfl, hok, rfl, hTr, hB⟩ := hrel
    rcases (by omega : k = 0 ∨ k = 1 ∨ k = 2 ∨ k = 3) with rfl | rfl | rfl | rfl
    · have f0 : wr.cell? ⟨0, 0, none⟩ = some (.int .i64 32) := hTr.fd 0 (by omega)
      have f1 : wr.cell? ⟨0, 1, none⟩ = some (.int .i64 0) := hTr.fd 1 (by omega)
      have f2 : wr.cell? ⟨0, 2, none⟩ = some (.int .i64 65535) := hTr.fd 2 (by omega)
      have hx : ∀ wx : World, (Instr.index 33 (.agg #[.int .i64 a, .int .i64 b, .int .i64 c]) (.int .i64 0)).run Tryd.prog wx = .ok (.int .i64 a) wx := fun _ => by kernel_rfl
      rw [show hP a b c 0 = 1125899906842624 from rfl]
      by_cases h0 : a < 0
      · have hd : decide (a < 0) = true := by simpa using h0
        have hn := packF_no (a := a) (b := b) (c := c) (fun h => by have := h.1; have := h.2.1; omega)
        clear hok
        go_wp2_with fail
        go_ret
        first | exact ⟨ret_i64 hn.symm, hB.alloc hB.size _⟩ | exact ⟨rfl, hB.alloc hB.size _⟩
      · have hd : decide (a < 0) = false := by simpa using h0
        by_cases h1 : 65535 < a
        · have hd1 : decide (65535 < a) = true := by simpa using h1
          have hn := packF_no (a := a) (b := b) (c := c) (fun h => by have := h.1; have := h.2.1; omega)
          clear hok
          go_wp2_with fail
          go_ret
          first | exact ⟨ret_i64 hn.symm, hB.alloc hB.size _⟩ | exact ⟨rfl, hB.alloc hB.size _⟩
        · have hd1 : decide (65535 < a) = false := by simpa using h1
          have ho : bits .or .i64 (1125899906842624) (a * 4294967296) = hP a b c 1 := or_low 48 _ _ (by omega) (by omega) (by omega) (by omega) (by omega) (by omega)
          have hnext : okK a b c 1 := ⟨fun _ => ⟨by omega, by omega⟩, by omega, by omega⟩
          clear hok
          go_wp2_with fail
          go_roundw
          case rel => exact ⟨1, by omega, by go_num, hnext, rfl, hTr.alloc _, hB.alloc hB.size _⟩
          case measure => simp [intOf]
    · have f0 : wr.cell? ⟨0, 3, none⟩ = some (.int .i64 2) := hTr.fd 3 (by omega)
      have f1 : wr.cell? ⟨0, 4, none⟩ = some (.int .i64 1) := hTr.fd 4 (by omega)
      have f2 : wr.cell? ⟨0, 5, none⟩ = some (.int .i64 1073741823) := hTr.fd 5 (by omega)
      have hx : ∀ wx : World, (Instr.index 33 (.agg #[.int .i64 a, .int .i64 b, .int .i64 c]) (.int .i64 1)).run Tryd.prog wx = .ok (.int .i64 b) wx := fun _ => by kernel_rfl
      rw [show hP a b c 1 = 1125899906842624 + a * 4294967296 from rfl]
      have ha := hok.1 (by omega)
      by_cases h0 : b < 1
      · have hd : decide (b < 1) = true := by simpa using h0
        have hn := packF_no (a := a) (b := b) (c := c) (fun h => by have := h.2.2.1; have := h.2.2.2.1; omega)
        clear hok
        go_wp2_with fail
        go_ret
        first | exact ⟨ret_i64 hn.symm, hB.alloc hB.size _⟩ | exact ⟨rfl, hB.alloc hB.size _⟩
      · have hd : decide (b < 1) = false := by simpa using h0
        by_cases h1 : 1073741823 < b
        · have hd1 : decide (1073741823 < b) = true := by simpa using h1
          have hn := packF_no (a := a) (b := b) (c := c) (fun h => by have := h.2.2.1; have := h.2.2.2.1; omega)
          clear hok
          go_wp2_with fail
          go_ret
          first | exact ⟨ret_i64 hn.symm, hB.alloc hB.size _⟩ | exact ⟨rfl, hB.alloc hB.size _⟩
        · have hd1 : decide (1073741823 < b) = false := by simpa using h1
          have ho : bits .or .i64 (1125899906842624 + a * 4294967296) (b * 4) = hP a b c 2 := or_low 32 _ _ (by omega) (by omega) (by omega) (by omega) (by omega) (by omega)
          have hnext : okK a b c 2 := ⟨fun _ => ha, fun _ => ⟨by omega, by omega⟩, by omega⟩
          clear hok
          go_wp2_with fail
          go_roundw
          case rel => exact ⟨2, by omega, by go_num, hnext, rfl, hTr.alloc _, hB.alloc hB.size _⟩
          case measure => simp [intOf]
    · have f0 : wr.cell? ⟨0, 6, none⟩ = some (.int .i64 0) := hTr.fd 6 (by omega)
      have f1 : wr.cell? ⟨0, 7, none⟩ = some (.int .i64 0) := hTr.fd 7 (by omega)
      have f2 : wr.cell? ⟨0, 8, none⟩ = some (.int .i64 3) := hTr.fd 8 (by omega)
      have hx : ∀ wx : World, (Instr.index 33 (.agg #[.int .i64 a, .int .i64 b, .int .i64 c]) (.int .i64 2)).run Tryd.prog wx = .ok (.int .i64 c) wx := fun _ => by kernel_rfl
      rw [show hP a b c 2 = 1125899906842624 + a * 4294967296 + b * 4 from rfl]
      have ha := hok.1 (by omega)
      have hb2 := hok.2.1 (by omega)
      by_cases h0 : c < 0
      · have hd : decide (c < 0) = true := by simpa using h0
        have hn := packF_no (a := a) (b := b) (c := c) (fun h => by have := h.2.2.2.2.1; have := h.2.2.2.2.2; omega)
        clear hok
        go_wp2_with fail
        go_ret
        first | exact ⟨ret_i64 hn.symm, hB.alloc hB.size _⟩ | exact ⟨rfl, hB.alloc hB.size _⟩
      · have hd : decide (c < 0) = false := by simpa using h0
        by_cases h1 : 3 < c
        · have hd1 : decide (3 < c) = true := by simpa using h1
          have hn := packF_no (a := a) (b := b) (c := c) (fun h => by have := h.2.2.2.2.1; have := h.2.2.2.2.2; omega)
          clear hok
          go_wp2_with fail
          go_ret
          first | exact ⟨ret_i64 hn.symm, hB.alloc hB.size _⟩ | exact ⟨rfl, hB.alloc hB.size _⟩
        · have hd1 : decide (3 < c) = false := by simpa using h1
          have ho : bits .or .i64 (1125899906842624 + a * 4294967296 + b * 4) c = packV a b c := or_low 2 (1125899906842624 + a * 4294967296 + b * 4) c (by omega) (by omega) (by omega) (by omega) (by omega) (by omega)
          have hnext : okK a b c 3 := ⟨fun _ => ha, fun _ => hb2, fun _ => ⟨by omega, by omega⟩⟩
          clear hok
          go_wp2_with fail
          go_roundw
          case rel => exact ⟨3, by omega, by go_num, hnext, rfl, hTr.alloc _, hB.alloc hB.size _⟩
          case measure => simp [intOf]
    · have hn := packF_ok (okK_all hok)
      clear hok
      rw [show hP a b c 3 = packV a b c from rfl]
      go_wp2_with fail
      go_ret
      first | exact ⟨ret_i64 hn.symm, hB⟩ | exact ⟨rfl, hB⟩
end Go.Proofs.YteidjejadaohjaaDoor
