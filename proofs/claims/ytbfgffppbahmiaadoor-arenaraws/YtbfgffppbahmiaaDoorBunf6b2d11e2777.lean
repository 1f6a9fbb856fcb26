/-
  Helpers: ArG.
-/
import Derived.Test.YtbfgffppbahmiaaDoorBun52fb0ca5dcb5
namespace Go.Proofs.YtbfgffppbahmiaaDoor
open Go.RowKit
open H8 (HTab below_then placeI placeI_bd place_any)

theorem setRaw_in {s : Ar} {i v : Int} (hi : inR s i) : setRawA s i v = { useA s with raw := upN s.raw i.toNat v } := if_pos hi
theorem raw_in {s : Ar} {i : Int} (hi : inR s i) : rawA s i = (useA s, s.raw i.toNat) := if_pos hi
theorem addRaw_in {s : Ar} {i v : Int} (hi : inR s i) : addRawA s i v = ({ useA s with raw := upN s.raw i.toNat (wrap64 (s.raw i.toNat + v)) }, s.raw i.toNat) := if_pos hi
theorem swapRaw_yes {s : Ar} {i o v : Int} (hi : inR s i) (h : s.raw i.toNat = o) : swapRawA s i o v = ({ useA s with raw := upN s.raw i.toNat v }, true) := by
  unfold swapRawA
  rw [if_pos hi, if_pos h]
theorem swapRaw_no {s : Ar} {i o v : Int} (hi : inR s i) (h : ¬ s.raw i.toNat = o) : swapRawA s i o v = (useA s, false) := by
  unfold swapRawA
  rw [if_pos hi, if_neg h]
theorem add_back (r v : Int) : wrap64 (wrap64 (r + v) - 50000) = wrap64 (r + (v - 50000)) := by unfold wrap64; omega
/-- so far -/
structure Rw (B : Ab) (q : Nat) (W wr : World) (K : Nat) (i : Nat) (s : Ar) : Prop where
  at_ : ArAt B wr s
  nr : s.nr = K
  bad : s.bad = false
  uses : s.uses = i
  row : wr.rowIs q 37 21 fun j => .int .i64 (s.raw j)
  low : Below W.heap.size W wr
theorem Rw.next {B : Ab} {q : Nat} {W wr w' : World} {K i : Nat} {s : Ar} (h : Rw B q W wr K i s) (hi : i < 60) (hq : ¬ B.has q) (hB : ∀ k, B.has k → W.heap.size ≤ k) {r : Nat → Int} (hA : ArAt B w' { useA s with raw := r }) (hF : FrA B wr w') (hr : ∀ j, s.raw j = r j) : Rw B q W w' K (i + 1) { useA s with raw := r } :=
  ⟨hA, h.nr, h.bad, by show wrap64 (s.uses + 1) = _; rw [h.uses, wr64_id (by omega) (by omega)]; omega, (h.row.of_block (hF.block q h.row.lt hq)).congr fun j _ => by show _ = Value.int .i64 (r j); rw [← hr], step_low h.low hF hB⟩
theorem Rw.turned {B : Ab} {q : Nat} {W wr w' : World} {K i : Nat} {s : Ar} (h : Rw B q W wr K i s) (hi : i < 60) (hq : ¬ B.has q) (hqW : W.heap.size ≤ q) (hq2 : q ≠ 1) (hq3 : q ≠ 0) (hB : ∀ k, B.has k → W.heap.size ≤ k) {j : Nat} {x : Int}
    (hA : ArAt B w' { useA s with raw := upN s.raw j x }) (hF : FrA B wr w') : Rw B q W (w'.setCell ⟨q, j, none⟩ (.int .i64 x)) K (i + 1) { useA s with raw := upN s.raw j x } :=
  ⟨hA.setOther hq hq2 hq3 _ _, h.nr, h.bad, by show wrap64 (s.uses + 1) = _; rw [h.uses, wr64_id (by omega) (by omega)]; omega, ((h.row.of_block (hF.block q h.row.lt hq)).set j _).congr fun k _ => up_val _ _ _ _, (step_low h.low hF hB).setCell (p := ⟨q, j, none⟩) hqW _⟩
set_option maxHeartbeats 4000000 in
set_option maxRecDepth 8000 in
theorem raws_walk (n : Int) (ad : Option Addr) (len cap : Nat) (hl : len ≤ 9223372036854775807) (w : World) (hN : NAt w ad len) (hT : HTab w) : Calls Tryd.prog 5 #[.int .i64 n, .slice ad len cap] w fun e w' => e = .returned (.bool true) ∧ Below w.heap.size w w' := by
  obtain ⟨x1, x2⟩ := placeI_bd n 20 (by omega)
  have Px := fun wx => place_any n 20 wx (by omega) (by omega)
  have Pv := fun z wx => place_any z 1048576 wx (by omega) (by omega)
  generalize placeI n 20 = x at *
  have h0 := New_any (1 + x) 0 false w hT
  have HK : Hid ((new9 (1 + x) 0 false).nr = (1 + x).toNat) := by show (cutF (1 + x)).toNat = _; unfold cutF; omega
  have HT : Hid (HTab w) := hT
  clear hT
  go_enter Tryd.func5, Tryd.ntmps5
  go_wp2_with fail
  refine (Px _).mono ?_
  rintro e w1 ⟨rfl, rfl⟩
  go_wp2_with fail
  refine h0.mono ?_
  rintro e w2 ⟨B, rfl, hA, hb, hB⟩
  go_wp2_with fail
  have hq : w2.heap.size < w2.heap.size + 1 := by omega
  have hp := (HT.out).pos
  have hqB : ¬ B.has w2.heap.size := fun hh => by have := hA.lt hh; omega
  have hqW : w1.heap.size ≤ w2.heap.size := hb.size
  have hq2 : w2.heap.size ≠ 1 := by omega
  have hq3 : w2.heap.size ≠ 0 := by omega
  obtain ⟨K, hK⟩ : ∃ K : Nat, (1 + x).toNat = K := ⟨_, rfl⟩
  have hKx : (K : Int) = 1 + x := by omega
  have HR : Hid (Rw B w2.heap.size w1 (w2.alloc (.cells (Array.replicate 21 (.int .i64 0)) 37 (0, 0))) K 0 (new9 (1 + x) 0 false)) := ⟨hA.alloc _, by rw [HK.out, hK], rfl, rfl, row_new w2 _ 21 _ _ rfl, hb.alloc hb.size _⟩
  have HQ : Hid (¬ B.has w2.heap.size ∧ w1.heap.size ≤ w2.heap.size ∧ w2.heap.size ≠ 1 ∧ w2.heap.size ≠ 0 ∧ (∀ k, B.has k → w1.heap.size ≤ k) ∧ (K : Int) = 1 + x) := ⟨hqB, hqW, hq2, hq3, hB, hKx⟩
  have hq4 : w2.heap.size ≠ B.b := fun e => hqB (by rw [e]; exact .inl rfl)
  clear hqB hqW hq2 hq3 hB hKx hA hb hp hK HK h0 Px hq
  go_loopw [8, 9] (fun uv iv wr => ∃ (i : Nat) (s : Ar), i ≤ 60 ∧ i ≤ len ∧ uv = .int .i64 i ∧ iv = .int .i64 i ∧ Rw B w2.heap.size w1 wr K i s) (fun _ iv _ => 60 - (intOf iv).toNat)
  case atStart => exact ⟨0, _, by omega, by omega, rfl, rfl, HR.out⟩
  case round =>
    obtain ⟨i, s, hi, hil, rfl, rfl, hR⟩ := hrel
    have HRR : Hid (Rw B w2.heap.size w1 wr K i s) := hR
    clear HR
    generalize w2.heap.size = q at *
    by_cases hlt : i < len ∧ i < 60
    · obtain ⟨hlt, hlt60⟩ := hlt
      obtain ⟨b, o, z, rfl, hc⟩ := hN.low hR.low i hlt
      have hN' : Hid (NAt w1 (some ⟨b, o, none⟩) len) := hN
      have hli : (i : Int) < (len : Int) := by omega
      have hli6 : (i : Int) < 60 := by omega
      obtain ⟨v1, v2⟩ := placeI_bd z 1048576 (by omega)
      have Pz := fun wx => Pv z wx
      obtain ⟨HQ1, HQ2, HQ3, HQ4, HQ5, hKx⟩ := HQ.out
      obtain ⟨j, hj⟩ : ∃ j : Nat, placeI z 1048576 / 4 % (1 + x) = j := ⟨(placeI z 1048576 / 4 % (1 + x)).toNat, by have := Int.emod_nonneg (placeI z 1048576 / 4) (b := 1 + x) (by omega); omega⟩
      have hjK : j < K := by have := Int.emod_lt_of_pos (placeI z 1048576 / 4) (b := 1 + x) (by omega); omega
      have hj21 : (j : Int) < 21 := by omega
      have hin : inR s j := ⟨by omega, by rw [hR.nr]; omega⟩
      have cj : wr.cell? ⟨q, j, none⟩ = some (.int .i64 (s.raw j)) := hR.row.cell (by omega)
      have fj : wr.frozen? ⟨q, j, none⟩ = false := hR.row.frozen _
      have hjt : ((j : Nat) : Int).toNat = j := by omega
      have hU : ∀ s' : Ar, s'.uses = ((i + 1 : Nat) : Int) → ∀ wx, ArAt B wx s' → Calls Tryd.prog 24 #[ptrA B] wx fun e w' => e = .returned (.int .i64 ((i : Int) + 1)) ∧ w' = wx := fun s' hs wx hx => by
        have := Uses_any hx
        rw [hs] at this
        rw [show (i : Int) + 1 = ((i + 1 : Nat) : Int) by omega]
        exact this
      have HU : Hid (∀ s' : Ar, s'.uses = ((i + 1 : Nat) : Int) → ∀ wx, ArAt B wx s' → Calls Tryd.prog 24 #[ptrA B] wx fun e w' => e = .returned (.int .i64 ((i : Int) + 1)) ∧ w' = wx) := hU
      have hk0 : ¬ (1 + x) = 0 := by omega
      have hk1 : ((1 + x) == 0) = false := by simp; omega
      generalize placeI z 1048576 = v at *
      have hv4 : v % 4 = 0 ∨ v % 4 = 1 ∨ v % 4 = 2 ∨ v % 4 = 3 := by omega
      clear hN hR hU Pv hKx
      go_wp2_with fail
      refine (Pz _).mono ?_
      rintro e w3 ⟨rfl, rfl⟩
      rcases hv4 with hv | hv | hv | hv
      · have SR := SetRaw_any HRR.out.at_ j v
        rw [setRaw_in hin, hjt] at SR
        clear hin
        go_wp2_with fail
        refine SR.mono ?_
        rintro e w4 ⟨rfl, hA4, hF4⟩
        have d4 := (hF4.cell (f := j) (block_lt_of_cell cj) HQ1).trans cj
        have e4 := (hF4.frozen (f := j) (block_lt_of_cell cj) HQ1).trans fj
        have hR' := HRR.out.turned hlt60 HQ1 HQ2 HQ3 HQ4 HQ5 hA4 hF4
        have HR' : Hid (Rw B q w1 (w4.setCell ⟨q, j, none⟩ (.int .i64 v)) K (i + 1) { useA s with raw := upN s.raw j v }) := hR'
        have hu := HU.out _ hR'.uses _ hR'.at_
        clear hA4 hF4 hR' cj fj
        go_wp2_with fail
        refine hu.mono ?_
        rintro e w5 ⟨rfl, rfl⟩
        go_wp2_with fail
        go_roundw
        case rel => exact ⟨i + 1, _, by omega, by omega, by go_num, by go_num, HR'.out⟩
        case measure => simp [intOf]; omega
      · by_cases ho : s.raw j = wrap64 (s.raw j - v / 400 % 2)
        · have SW := SwapRaw_any HRR.out.at_.drew j (wrap64 (s.raw j - v / 400 % 2)) v
          rw [swapRaw_yes hin (by rw [hjt]; exact ho), hjt] at SW
          have hbb : (wrap64 (s.raw j - v / 400 % 2) == s.raw j) = true := by simpa using ho.symm
          have hfr : ∀ w', FrA B w3.drew w' → w'.cell? ⟨q, j, none⟩ = some (.int .i64 (s.raw j)) ∧ w'.frozen? ⟨q, j, none⟩ = false := fun w' hF => ⟨(hF.cell (f := j) (block_lt_of_cell cj) HQ1).trans cj, (hF.frozen (f := j) (block_lt_of_cell cj) HQ1).trans fj⟩
          have HFR : Hid (∀ w', FrA B w3.drew w' → w'.cell? ⟨q, j, none⟩ = some (.int .i64 (s.raw j)) ∧ w'.frozen? ⟨q, j, none⟩ = false) := hfr
          clear hin ho hfr
          generalize s.raw j = r at *
          go_wp2_with fail
          go_region_held3 (fun w' => w'.cell? ⟨q, j, none⟩ = some (.int .i64 r)) (first | exact cj | assumption) (first | (go_at_call 26; refine SW.mono ?_; rintro e w4 ⟨rfl, hA4, hF4⟩; obtain ⟨d4, e4⟩ := HFR.out w4 hF4))
          have hR' := HRR.out.turned hlt60 HQ1 HQ2 HQ3 HQ4 HQ5 hA4 ((FrA.refl B w3).drew.trans hF4)
          have HR' : Hid (Rw B q w1 (w4.setCell ⟨q, j, none⟩ (.int .i64 v)) K (i + 1) { useA s with raw := upN s.raw j v }) := hR'
          have hu := HU.out _ hR'.uses _ hR'.at_
          clear hA4 hF4 hR' cj fj
          go_wp2_with fail
          refine hu.mono ?_
          rintro e w5 ⟨rfl, rfl⟩
          go_wp2_with fail
          go_roundw
          case rel => exact ⟨i + 1, _, by omega, by omega, by go_num, by go_num, HR'.out⟩
          case measure => simp [intOf]; omega
        · have SW := SwapRaw_any HRR.out.at_.drew j (wrap64 (s.raw j - v / 400 % 2)) v
          rw [swapRaw_no hin (by rw [hjt]; exact ho)] at SW
          have hbb : (wrap64 (s.raw j - v / 400 % 2) == s.raw j) = false := by simpa using fun e => ho e.symm
          have HFR : Hid (∀ w', FrA B w3.drew w' → w'.cell? ⟨q, j, none⟩ = some (.int .i64 (s.raw j)) ∧ w'.frozen? ⟨q, j, none⟩ = false) := fun w' hF => ⟨(hF.cell (f := j) (block_lt_of_cell cj) HQ1).trans cj, (hF.frozen (f := j) (block_lt_of_cell cj) HQ1).trans fj⟩
          clear hin ho
          generalize s.raw j = r at *
          go_wp2_with fail
          go_region_held3 (fun w' => w'.cell? ⟨q, j, none⟩ = some (.int .i64 r)) (first | exact cj | assumption) (first | (go_at_call 26; refine SW.mono ?_; rintro e w4 ⟨rfl, hA4, hF4⟩; obtain ⟨d4, e4⟩ := HFR.out w4 hF4))
          have hR' := HRR.out.next hlt60 HQ1 HQ5 (r := s.raw) hA4 ((FrA.refl B w3).drew.trans hF4) (fun _ => rfl)
          have HR' : Hid (Rw B q w1 w4 K (i + 1) { useA s with raw := s.raw }) := hR'
          have hu := HU.out _ hR'.uses _ hR'.at_
          clear hA4 hF4 hR' cj fj
          go_wp2_with fail
          refine hu.mono ?_
          rintro e w5 ⟨rfl, rfl⟩
          go_wp2_with fail
          go_roundw
          case rel => exact ⟨i + 1, _, by omega, by omega, by go_num, by go_num, HR'.out⟩
          case measure => simp [intOf]; omega
      · have hw5 : IntKind.i64.wrap (v - 50000) = v - 50000 := by rw [IntKind.wrap_i64]; omega
        have SW := AddRaw_any HRR.out.at_.drew j (v - 50000)
        rw [addRaw_in hin, hjt] at SW
        have HFR : Hid (∀ w', FrA B w3.drew w' → w'.cell? ⟨q, j, none⟩ = some (.int .i64 (s.raw j)) ∧ w'.frozen? ⟨q, j, none⟩ = false) := fun w' hF => ⟨(hF.cell (f := j) (block_lt_of_cell cj) HQ1).trans cj, (hF.frozen (f := j) (block_lt_of_cell cj) HQ1).trans fj⟩
        have HW : Hid (∀ w4, ArAt B w4 { useA s with raw := upN s.raw j (wrap64 (s.raw j + (v - 50000))) } → FrA B w3 w4 → Rw B q w1 (w4.setCell ⟨q, j, none⟩ (.int .i64 (wrap64 (wrap64 (s.raw j + v) - 50000)))) K (i + 1) { useA s with raw := upN s.raw j (wrap64 (s.raw j + (v - 50000))) }) := fun w4 hA hF => by
          rw [add_back]
          exact HRR.out.turned hlt60 HQ1 HQ2 HQ3 HQ4 HQ5 hA hF
        clear hin
        generalize s.raw j = r at *
        go_wp2_with fail
        go_region_held3 (fun w' => w'.cell? ⟨q, j, none⟩ = some (.int .i64 r)) (first | exact cj | assumption) (first | (go_at_call 27; refine SW.mono ?_; rintro e w4 ⟨rfl, hA4, hF4⟩; obtain ⟨d4, e4⟩ := HFR.out w4 hF4))
        have hR' := HW.out w4 hA4 ((FrA.refl B w3).drew.trans hF4)
        have HR' : Hid (Rw B q w1 (w4.setCell ⟨q, j, none⟩ (.int .i64 (wrap64 (wrap64 (r + v) - 50000)))) K (i + 1) { useA s with raw := upN s.raw j (wrap64 (r + (v - 50000))) }) := hR'
        have hu := HU.out _ hR'.uses _ hR'.at_
        clear hA4 hF4 hR' cj fj
        go_wp2_with fail
        refine hu.mono ?_
        rintro e w5 ⟨rfl, rfl⟩
        go_wp2_with fail
        go_roundw
        case rel => exact ⟨i + 1, _, by omega, by omega, by go_num, by go_num, HR'.out⟩
        case measure => simp [intOf]; omega
      · have SW := Raw_any HRR.out.at_.drew j
        rw [raw_in hin, hjt] at SW
        have HFR : Hid (∀ w', FrA B w3.drew w' → w'.cell? ⟨q, j, none⟩ = some (.int .i64 (s.raw j)) ∧ w'.frozen? ⟨q, j, none⟩ = false) := fun w' hF => ⟨(hF.cell (f := j) (block_lt_of_cell cj) HQ1).trans cj, (hF.frozen (f := j) (block_lt_of_cell cj) HQ1).trans fj⟩
        clear hin
        generalize s.raw j = r at *
        go_wp2_with fail
        go_region_held3 (fun w' => w'.cell? ⟨q, j, none⟩ = some (.int .i64 r)) (first | exact cj | assumption) (first | (go_at_call 22; refine SW.mono ?_; rintro e w4 ⟨rfl, hA4, hF4⟩; obtain ⟨d4, e4⟩ := HFR.out w4 hF4))
        have hR' := HRR.out.next hlt60 HQ1 HQ5 (r := s.raw) hA4 ((FrA.refl B w3).drew.trans hF4) (fun _ => rfl)
        have HR' : Hid (Rw B q w1 w4 K (i + 1) { useA s with raw := s.raw }) := hR'
        have hu := HU.out _ hR'.uses _ hR'.at_
        clear hA4 hF4 hR' cj fj
        go_wp2_with fail
        refine hu.mono ?_
        rintro e w5 ⟨rfl, rfl⟩
        go_wp2_with fail
        go_roundw
        case rel => exact ⟨i + 1, _, by omega, by omega, by go_num, by go_num, HR'.out⟩
        case measure => simp [intOf]; omega
    · have hF := Fault_any hR.at_
      rw [hR.bad] at hF
      have hAw := awake_any wr hR.at_.tab
      have HE : Hid (∀ w', Below wr.heap.size wr w' → Below w1.heap.size w1 w') := fun w' h => below_then hR.low h
      have hcase : (¬ (i : Int) < (len : Int)) ∨ ((i : Int) < (len : Int) ∧ ¬ (i : Int) < 60) := by omega
      clear hR hlt hi hil Pv hN
      rcases hcase with h1 | ⟨h1, h2⟩
      all_goals
        go_wp2_with fail
        refine hF.mono ?_
        rintro e w5 ⟨rfl, rfl⟩
        go_wp2_with fail
        refine hAw.mono ?_
        rintro e w6 ⟨rfl, hb6⟩
        go_wp2_with fail
        go_ret
        exact ⟨rfl, HE.out _ hb6⟩
end Go.Proofs.YtbfgffppbahmiaaDoor
