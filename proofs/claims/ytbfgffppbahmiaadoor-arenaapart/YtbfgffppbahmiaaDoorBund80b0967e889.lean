/-
  Helpers: ArW.
-/
import Derived.Test.YtbfgffppbahmiaaDoorBunce7cedda198f
import Derived.Test.YtbfgffppbahmiaaDoorBun839edaba8cb6
import Derived.Test.YtbfgffppbahmiaaDoorBunfd92e2a8d52e
import Derived.Test.YtbfgffppbahmiaaDoorBun000362cd669d
namespace Go.Proofs.YtbfgffppbahmiaaDoor
open Go.RowKit
open H8 (okP packV packF opA opB opC isH sizeF szT HTab below_then)

theorem step_low {B : Ab} {W a b : World} (hb : Below W.heap.size W a) (hF : FrA B a b) (hB : ∀ k, B.has k → W.heap.size ≤ k) : Below W.heap.size W b := hb.trans (hF.below hb.size hB)
theorem okB_of {s : Ar} {h : Int} (h1 : isH h) (h2 : bN h + zN h ≤ s.nw) (h3 : s.gen (bN h) < opB h) (h4 : ∀ p, inS h p → s.tak p = false) : bornA s h = (bornS s h, true) := by
  unfold bornA
  rw [if_pos ⟨h1, h2, h3, h4⟩]
theorem okB_no {s : Ar} {h : Int} (h1 : ¬ okB s h) : bornA s h = (s, false) := by
  unfold bornA
  rw [if_neg h1]
theorem retire_of {s : Ar} {h : Int} (h1 : s.st h = 1) : retireA s h = (retireS s h, true) := if_pos h1
theorem died_of {s : Ar} {h : Int} (h1 : s.st h = 2) : diedA s h = (diedS s h, true) := if_pos h1
theorem store_in {s : Ar} {h i v : Int} (hi : inW s h i) : storeA s h i v = { useA s with mem := upN s.mem (atW h i) v } := if_pos hi
theorem load_in {s : Ar} {h i : Int} (hi : inW s h i) : loadA s h i = (useA s, s.mem (atW h i)) := if_pos hi
theorem load_out {s : Ar} {h i : Int} (hi : ¬ inW s h i) : loadA s h i = (badA s, 0) := if_neg hi
theorem born_st (s : Ar) (k : Int) : (bornS s k).st k = 1 := upI_same s.st k 1
theorem born_st' (s : Ar) {k j : Int} (h : j ≠ k) : (bornS s k).st j = s.st j := upI_other s.st 1 h
theorem born_gen (s : Ar) (k : Int) : (bornS s k).gen (bN k) = opB k := upI_same s.gen _ _
theorem retire_st (s : Ar) (k : Int) : (retireS s k).st k = 2 := upI_same s.st k 2
theorem retire_st' (s : Ar) {k j : Int} (h : j ≠ k) : (retireS s k).st j = s.st j := upI_other s.st 2 h
theorem died_st (s : Ar) (k : Int) : (diedS s k).st k = 0 := upI_same s.st k 0
theorem died_st' (s : Ar) {k j : Int} (h : j ≠ k) : (diedS s k).st j = s.st j := upI_other s.st 0 h
def aw0 : Ar := new9 4 64 false
def awH : Int := packV 8 1 0
theorem aw_h : isH awH ∧ bN awH = 8 ∧ zN awH = 8 ∧ opB awH = 1 := by
  have ho : okP 8 1 0 := by decide
  refine ⟨isH_pack ho, ?_, ?_, opB_pack ho⟩
  · exact bN_pack ho
  · exact zN_pack ho
def aw1 : Ar := bornS aw0 awH
def aw2 : Ar := { useA aw1 with mem := upN aw1.mem (atW awH 3) 77 }
def aw3 : Ar := useA aw2
def aw4 : Ar := retireS aw3 awH
def aw5 : Ar := diedS aw4 awH
def aw6 : Ar := badA aw5
theorem aw_born : bornA aw0 awH = (aw1, true) := by
  obtain ⟨h1, h2, h3, h4⟩ := aw_h
  exact okB_of h1 (by rw [h2, h3]; decide) (by rw [h4]; decide) fun p _ => rfl
theorem aw_st1 : aw1.st awH = 1 := born_st aw0 awH
theorem aw_born2 : bornA aw1 awH = (aw1, false) := by
  refine okB_no fun h => ?_
  have := h.2.2.1
  rw [show aw1.gen (bN awH) = opB awH from born_gen aw0 awH] at this
  omega
theorem aw_in1 : inW aw1 awH 3 := ⟨by rw [aw_st1]; decide, by decide, by rw [aw_h.2.2.1]; decide⟩
theorem aw_store : storeA aw1 awH 3 77 = aw2 := store_in aw_in1
theorem aw_load : loadA aw2 awH 3 = (aw3, 77) := by
  rw [load_in (show inW aw2 awH 3 from aw_in1)]
  show (aw3, upN aw1.mem (atW awH 3) 77 (atW awH 3)) = _
  rw [upN_same]
theorem aw_bad3 : aw3.bad = false := rfl
theorem aw_retire : retireA aw3 awH = (aw4, true) := retire_of aw_st1
theorem aw_died : diedA aw4 awH = (aw5, true) := died_of (retire_st aw3 awH)
theorem aw_load2 : loadA aw5 awH 3 = (aw6, 0) := load_out fun h => h.1 (died_st aw4 awH)
theorem aw_bad6 : aw6.bad = true := rfl
theorem aw_uses : aw6.uses = 3 := by kernel_rfl
theorem aw_pack (w : World) (hT : HTab w) : Calls Tryd.prog 13 #[.int .i64 8, .int .i64 1, .int .i64 0] w fun e w' => e = .returned (.int .i64 awH) ∧ Below w.heap.size w w' := H8.Pack_ok (by decide) w hT
set_option maxHeartbeats 1000000 in
theorem awake_any (w : World) (hT : HTab w) : Calls Tryd.prog 20 #[] w fun e w' => e = .returned (.bool true) ∧ Below w.heap.size w w' := by
  have h0 := New_any 4 64 false w hT
  have hp := fun wx (hx : HTab wx) => aw_pack wx hx
  have k1 := fun B wx (hx : ArAt B wx aw0) => Born_any hx awH
  have k2 := fun B wx (hx : ArAt B wx aw1) => Born_any hx awH
  have k3 := fun B wx (hx : ArAt B wx aw1) => Store_any hx awH 3 77
  have k4 := fun B wx (hx : ArAt B wx aw2) => Load_any hx awH 3
  have k5 := fun B wx (hx : ArAt B wx aw3) => Fault_any hx
  have k6 := fun B wx (hx : ArAt B wx aw3) => Retire_any hx awH
  have k7 := fun B wx (hx : ArAt B wx aw4) => Died_any hx awH
  have k8 := fun B wx (hx : ArAt B wx aw5) => Load_any hx awH 3
  have k9 := fun B wx (hx : ArAt B wx aw6) => Fault_any hx
  have k10 := fun B wx (hx : ArAt B wx aw6) => Uses_any hx
  rw [aw_born] at k1
  rw [aw_born2] at k2
  rw [aw_store] at k3
  rw [aw_load] at k4
  rw [aw_bad3] at k5
  rw [aw_retire] at k6
  rw [aw_died] at k7
  rw [aw_load2] at k8
  rw [aw_bad6] at k9
  rw [aw_uses] at k10
  replace h0 : Calls Tryd.prog 8 #[.int .i64 4, .int .i64 64, .bool false] w (New9 w aw0) := h0
  generalize awH = H at *
  generalize aw0 = s0 at *
  generalize aw1 = s1 at *
  generalize aw2 = s2 at *
  generalize aw3 = s3 at *
  generalize aw4 = s4 at *
  generalize aw5 = s5 at *
  generalize aw6 = s6 at *
  go_enter Tryd.func20, Tryd.ntmps20
  go_wp2_with fail
  refine h0.mono ?_
  rintro e w1 ⟨B, rfl, hA1, hb1, hB⟩
  go_wp2_with fail
  refine (hp _ (hT.below hb1)).mono ?_
  rintro e w2 ⟨rfl, hb2⟩
  replace hA1 := hA1.below hb2
  replace hb2 := below_then hb1 hb2
  go_wp2_with fail
  refine (k1 _ _ hA1).mono ?_
  rintro e w3 ⟨rfl, hA3, hF3⟩
  replace hb2 := step_low hb2 hF3 hB
  clear hA1 hF3 k1
  go_wp2_with fail
  refine (k2 _ _ hA3).mono ?_
  rintro e w4 ⟨rfl, hA4, hF4⟩
  replace hb2 := step_low hb2 hF4 hB
  clear hA3 hF4 k2
  go_wp2_with fail
  refine (k3 _ _ hA4).mono ?_
  rintro e w5 ⟨rfl, hA5, hF5⟩
  replace hb2 := step_low hb2 hF5 hB
  clear hA4 hF5 k3
  go_wp2_with fail
  refine (k4 _ _ hA5).mono ?_
  rintro e w6 ⟨rfl, hA6, hF6⟩
  replace hb2 := step_low hb2 hF6 hB
  clear hA5 hF6 k4
  go_wp2_with fail
  refine (k5 _ _ hA6).mono ?_
  rintro e w6' ⟨rfl, rfl⟩
  go_wp2_with fail
  refine (k6 _ _ hA6).mono ?_
  rintro e w7 ⟨rfl, hA7, hF7⟩
  replace hb2 := step_low hb2 hF7 hB
  clear hA6 hF7 k6 k5
  go_wp2_with fail
  refine (k7 _ _ hA7).mono ?_
  rintro e w8 ⟨rfl, hA8, hF8⟩
  replace hb2 := step_low hb2 hF8 hB
  clear hA7 hF8 k7
  go_wp2_with fail
  refine (k8 _ _ hA8).mono ?_
  rintro e w9 ⟨rfl, hA9, hF9⟩
  replace hb2 := step_low hb2 hF9 hB
  clear hA8 hF9 k8
  go_wp2_with fail
  refine (k9 _ _ hA9).mono ?_
  rintro e w9' ⟨rfl, rfl⟩
  go_wp2_with fail
  refine (k10 _ _ hA9).mono ?_
  rintro e w9' ⟨rfl, rfl⟩
  go_wp2_with fail
  go_ret
  exact ⟨rfl, hb2⟩
end Go.Proofs.YtbfgffppbahmiaaDoor
