/-
  Open.
-/
import Derived.Test.YteidjejadaohjaaDoorHb
namespace Go.Proofs.YteidjejadaohjaaDoor
open Go.RowKit

/-- what Open answers -/
def opnV (h : Int) : Value := if h ≠ 0 ∧ packF (opA h) (opB h) (opC h) = h then .tuple #[.int .i64 (opA h), .int .i64 (opB h), .int .i64 (opC h), .bool true] else .tuple #[.int .i64 0, .int .i64 0, .int .i64 0, .bool false]
theorem opnV_yes {a b c : Int} (h : okP a b c) : opnV (packV a b c) = .tuple #[.int .i64 a, .int .i64 b, .int .i64 c, .bool true] := by
  obtain ⟨h1, h2, h3⟩ := open_pack h
  have h4 := pack_pos h
  unfold opnV
  rw [h1, h2, h3, packF_ok h, if_pos ⟨by omega, rfl⟩]
theorem opnV_no {h : Int} (hn : ¬ isH h) : opnV h = .tuple #[.int .i64 0, .int .i64 0, .int .i64 0, .bool false] := by
  unfold opnV
  refine if_neg fun hh => ?_
  rcases not_name hn with h0 | h0
  · rw [h0] at hh
    exact hh.1 hh.2.symm
  · exact h0 hh.2
def opX (h : Int) (k : Nat) : Int := if 0 < k then opA h else 0
def opY (h : Int) (k : Nat) : Int := if 1 < k then opB h else 0
def opZ (h : Int) (k : Nat) : Int := if 2 < k then opC h else 0
theorem below_drewN {B : Nat} {a w : World} (h : Below B a w) (n : Nat) : Below B a (w.drewN n) := ⟨h.os, h.tape, h.output, h.size, h.block⟩
set_option maxHeartbeats 1000000 in
theorem Open_any (h : Int) (w : World) (hT : HTab w) : Calls Tryd.prog 8 #[.int .i64 h] w fun e w' => e = .returned (opnV h) ∧ Below w.heap.size w w' := by
  have hp := hT.pos
  have hp1 := hp.1
  have hp2 := hp.2
  clear hp
  have hA : bits .and .i64 (h / 4294967296) 65535 = opA h := and65535 _
  have hBb : bits .and .i64 (h / 4) 1073741823 = opB h := and1073741823 _
  have hC : bits .and .i64 h 3 = opC h := and3 _
  have g0 : w.cell? ⟨0, 0, none⟩ = some (.int .i64 32) := hT.fd 0 (by omega)
  have g1 : w.cell? ⟨0, 1, none⟩ = some (.int .i64 0) := hT.fd 1 (by omega)
  have g2 : w.cell? ⟨0, 2, none⟩ = some (.int .i64 65535) := hT.fd 2 (by omega)
  have g3 : w.cell? ⟨0, 3, none⟩ = some (.int .i64 2) := hT.fd 3 (by omega)
  have g4 : w.cell? ⟨0, 4, none⟩ = some (.int .i64 1) := hT.fd 4 (by omega)
  have g5 : w.cell? ⟨0, 5, none⟩ = some (.int .i64 1073741823) := hT.fd 5 (by omega)
  have g6 : w.cell? ⟨0, 6, none⟩ = some (.int .i64 0) := hT.fd 6 (by omega)
  have g7 : w.cell? ⟨0, 7, none⟩ = some (.int .i64 0) := hT.fd 7 (by omega)
  have g8 : w.cell? ⟨0, 8, none⟩ = some (.int .i64 3) := hT.fd 8 (by omega)
  go_enter Tryd.func8, Tryd.ntmps8
  go_wp2_with fail
  go_loopw [10] (fun kv wr => ∃ k : Nat, k ≤ 3 ∧ kv = .int .i64 k ∧ wr.heap[w.heap.size]? = some (.cells #[.int .i64 (opX h k), .int .i64 (opY h k), .int .i64 (opZ h k)] 33 (0, 0)) ∧ Below w.heap.size w wr) (fun kv _ => 3 - (intOf kv).toNat)
  case atStart => exact ⟨0, by omega, rfl, heap_alloc_new _ _, (Below.refl _ _).alloc (Nat.le_refl _) _⟩
  case round =>
    obtain ⟨k, hk, rfl, hbox, hB⟩ := hrel
    rcases (by omega : k = 0 ∨ k = 1 ∨ k = 2 ∨ k = 3) with rfl | rfl | rfl | rfl
    · have hx : ∀ wx : World, (Instr.index 36 (.agg #[.int .i64 32, .int .i64 0, .int .i64 65535, .int .i64 2, .int .i64 1, .int .i64 1073741823, .int .i64 0, .int .i64 0, .int .i64 3]) (.int .i64 0)).run Tryd.prog wx = .ok (.agg #[.int .i64 32, .int .i64 0, .int .i64 65535]) wx := fun _ => by kernel_rfl
      have hbx : wr.heap[w.heap.size]? = some (.cells #[.int .i64 0, .int .i64 0, .int .i64 0] 33 (0, 0)) := hbox
      have hlt : w.heap.size < wr.heap.size := lt_of_block hbx
      have hc := fun o => cell_of_row (wr.alloc o) w.heap.size 0 _ _ _ ((Below.heap_alloc wr o _ hlt).trans hbx)
      have hf := fun o => frozen_of_row (wr.alloc o) w.heap.size 0 _ _ ((Below.heap_alloc wr o _ hlt).trans hbx)
      have hs := hB.setCell (p := ⟨w.heap.size, 0, none⟩) (Nat.le_refl _) (.int .i64 (opA h))
      have hlt2 : w.heap.size < (wr.setCell ⟨w.heap.size, 0, none⟩ (.int .i64 (opA h))).heap.size := by simpa using hlt
      have hn := fun o => (Below.heap_alloc (wr.setCell ⟨w.heap.size, 0, none⟩ (.int .i64 (opA h))) o _ hlt2).trans (heap_setCell_same wr w.heap.size 0 _ _ (.int .i64 (opA h)) hbx)
      have hne : ¬ w.heap.size = wr.heap.size := by omega
      have hne2 : ¬ wr.heap.size = w.heap.size := by omega
      clear hbox hbx g0 g1 g2 g3 g4 g5 g6 g7 g8
      go_wp2_with fail
      go_region
      go_wp2_with fail
      go_roundw
      case rel => exact ⟨1, by omega, by go_num, hn _, (hs.alloc hs.size _).drew⟩
      case measure => simp [intOf]
    · have hx : ∀ wx : World, (Instr.index 36 (.agg #[.int .i64 32, .int .i64 0, .int .i64 65535, .int .i64 2, .int .i64 1, .int .i64 1073741823, .int .i64 0, .int .i64 0, .int .i64 3]) (.int .i64 1)).run Tryd.prog wx = .ok (.agg #[.int .i64 2, .int .i64 1, .int .i64 1073741823]) wx := fun _ => by kernel_rfl
      have hbx : wr.heap[w.heap.size]? = some (.cells #[.int .i64 (opA h), .int .i64 0, .int .i64 0] 33 (0, 0)) := hbox
      have hlt : w.heap.size < wr.heap.size := lt_of_block hbx
      have hc := fun o => cell_of_row (wr.alloc o) w.heap.size 1 _ _ _ ((Below.heap_alloc wr o _ hlt).trans hbx)
      have hf := fun o => frozen_of_row (wr.alloc o) w.heap.size 1 _ _ ((Below.heap_alloc wr o _ hlt).trans hbx)
      have hs := hB.setCell (p := ⟨w.heap.size, 1, none⟩) (Nat.le_refl _) (.int .i64 (opB h))
      have hlt2 : w.heap.size < (wr.setCell ⟨w.heap.size, 1, none⟩ (.int .i64 (opB h))).heap.size := by simpa using hlt
      have hn := fun o => (Below.heap_alloc (wr.setCell ⟨w.heap.size, 1, none⟩ (.int .i64 (opB h))) o _ hlt2).trans (heap_setCell_same wr w.heap.size 1 _ _ (.int .i64 (opB h)) hbx)
      have hne : ¬ w.heap.size = wr.heap.size := by omega
      have hne2 : ¬ wr.heap.size = w.heap.size := by omega
      clear hbox hbx g0 g1 g2 g3 g4 g5 g6 g7 g8
      go_wp2_with fail
      go_region
      go_wp2_with fail
      go_roundw
      case rel => exact ⟨2, by omega, by go_num, hn _, (hs.alloc hs.size _).drew⟩
      case measure => simp [intOf]
    · have hx : ∀ wx : World, (Instr.index 36 (.agg #[.int .i64 32, .int .i64 0, .int .i64 65535, .int .i64 2, .int .i64 1, .int .i64 1073741823, .int .i64 0, .int .i64 0, .int .i64 3]) (.int .i64 2)).run Tryd.prog wx = .ok (.agg #[.int .i64 0, .int .i64 0, .int .i64 3]) wx := fun _ => by kernel_rfl
      have hbx : wr.heap[w.heap.size]? = some (.cells #[.int .i64 (opA h), .int .i64 (opB h), .int .i64 0] 33 (0, 0)) := hbox
      have hlt : w.heap.size < wr.heap.size := lt_of_block hbx
      have hc := fun o => cell_of_row (wr.alloc o) w.heap.size 2 _ _ _ ((Below.heap_alloc wr o _ hlt).trans hbx)
      have hf := fun o => frozen_of_row (wr.alloc o) w.heap.size 2 _ _ ((Below.heap_alloc wr o _ hlt).trans hbx)
      have hs := hB.setCell (p := ⟨w.heap.size, 2, none⟩) (Nat.le_refl _) (.int .i64 (opC h))
      have hlt2 : w.heap.size < (wr.setCell ⟨w.heap.size, 2, none⟩ (.int .i64 (opC h))).heap.size := by simpa using hlt
      have hn := fun o => (Below.heap_alloc (wr.setCell ⟨w.heap.size, 2, none⟩ (.int .i64 (opC h))) o _ hlt2).trans (heap_setCell_same wr w.heap.size 2 _ _ (.int .i64 (opC h)) hbx)
      have hne : ¬ w.heap.size = wr.heap.size := by omega
      have hne2 : ¬ wr.heap.size = w.heap.size := by omega
      clear hbox hbx g0 g1 g2 g3 g4 g5 g6 g7 g8
      go_wp2_with fail
      go_region
      go_wp2_with fail
      go_roundw
      case rel => exact ⟨3, by omega, by go_num, hn _, (hs.alloc hs.size _).drew⟩
      case measure => simp [intOf]
    · have hbx : wr.heap[w.heap.size]? = some (.cells #[.int .i64 (opA h), .int .i64 (opB h), .int .i64 (opC h)] 33 (0, 0)) := hbox
      have c0 : wr.cell? ⟨w.heap.size, 0, none⟩ = some (.int .i64 (opA h)) := cell_of_row _ _ _ _ _ _ hbx
      have c1 : wr.cell? ⟨w.heap.size, 1, none⟩ = some (.int .i64 (opB h)) := cell_of_row _ _ _ _ _ _ hbx
      have c2 : wr.cell? ⟨w.heap.size, 2, none⟩ = some (.int .i64 (opC h)) := cell_of_row _ _ _ _ _ _ hbx
      have hTr := hT.below hB
      have HP : Hid (∀ m, Calls Tryd.prog 7 #[.int .i64 (opA h), .int .i64 (opB h), .int .i64 (opC h)] (wr.drewN m) fun e w' => e = .returned (.int .i64 (packF (opA h) (opB h) (opC h))) ∧ Below wr.heap.size wr w') := fun m => (Pack_any (opA h) (opB h) (opC h) (wr.drewN m) (hTr.drewN m)).mono fun e w' hh => ⟨hh.1, (below_drewN (Below.refl wr.heap.size wr) m).trans hh.2⟩
      clear hbox hbx g0 g1 g2 g3 g4 g5 g6 g7 g8 hA hBb hC hTr
      by_cases h0 : h = 0
      · have hno : opnV h = .tuple #[.int .i64 0, .int .i64 0, .int .i64 0, .bool false] := by unfold opnV; rw [if_neg (fun hh => hh.1 h0)]
        have HN : Hid (Ending.returned (opnV h) = .returned (.tuple #[.int .i64 0, .int .i64 0, .int .i64 0, .bool false])) := by show _ = _; rw [hno]
        clear hno
        have h0b : (h == 0) = true := by simpa using h0
        clear h0
        go_wp2_with fail
        go_quiet (fail)
        go_wp2_with fail
        exact bodyPost_ret (v := .tuple #[.int .i64 0, .int .i64 0, .int .i64 0, .bool false]) (by simp [results, Tryd.results8, go_sem]) rfl ⟨HN.out.symm, below_drewN hB _⟩
      · have h0b : (h == 0) = false := by simpa using h0
        by_cases h1 : packF (opA h) (opB h) (opC h) = h
        · have hyes : opnV h = .tuple #[.int .i64 (opA h), .int .i64 (opB h), .int .i64 (opC h), .bool true] := by unfold opnV; rw [if_pos ⟨h0, h1⟩]
          have HN : Hid (Ending.returned (opnV h) = .returned (.tuple #[.int .i64 (opA h), .int .i64 (opB h), .int .i64 (opC h), .bool true])) := by show _ = _; rw [hyes]
          have h1b : (packF (opA h) (opB h) (opC h) != h) = false := by simpa using h1
          clear hyes h1
          generalize packF (opA h) (opB h) (opC h) = pf at *
          go_wp2_with fail
          go_quiet (fail)
          go_wp2_with fail
          refine (HP.out _).mono ?_
          rintro e w1 ⟨rfl, hb1⟩
          go_wp2_with fail
          exact bodyPost_ret (v := .tuple #[.int .i64 (opA h), .int .i64 (opB h), .int .i64 (opC h), .bool true]) (by simp [results, Tryd.results8, go_sem]) rfl ⟨HN.out.symm, hB.trans (hb1.mono hB.size)⟩
        · have hno : opnV h = .tuple #[.int .i64 0, .int .i64 0, .int .i64 0, .bool false] := by unfold opnV; rw [if_neg (fun hh => h1 hh.2)]
          have HN : Hid (Ending.returned (opnV h) = .returned (.tuple #[.int .i64 0, .int .i64 0, .int .i64 0, .bool false])) := by show _ = _; rw [hno]
          have h1b : (packF (opA h) (opB h) (opC h) != h) = true := by simpa using h1
          clear hno h1
          generalize packF (opA h) (opB h) (opC h) = pf at *
          go_wp2_with fail
          go_quiet (fail)
          go_wp2_with fail
          refine (HP.out _).mono ?_
          rintro e w1 ⟨rfl, hb1⟩
          go_wp2_with fail
          exact bodyPost_ret (v := .tuple #[.int .i64 0, .int .i64 0, .int .i64 0, .bool false]) (by simp [results, Tryd.results8, go_sem]) rfl ⟨HN.out.symm, hB.trans (hb1.mono hB.size)⟩
end Go.Proofs.YteidjejadaohjaaDoor
