/-
  Helpers: A9ArW.
-/
import Derived.Test.YtopnkfbcphbbiaaDoorBunc36432d0f205
import Derived.Test.YtopnkfbcphbbiaaDoorBun821e415c7222
import Derived.Test.YtopnkfbcphbbiaaDoorBun4cf1fb75d615
import Derived.Test.YtopnkfbcphbbiaaDoorBun6004336321ba
namespace Go.Proofs.YtopnkfbcphbbiaaDoor.A9
open Go.RowKit
open H8 (okP packV packF opA opB opC isH sizeF szT HTab below_then)

theorem step_low {B : Ab} {W a b : World} (hb : Below W.heap.size W a) (hF : FrA B a b) (hB : ∀ k, B.has k → W.heap.size ≤ k) : Below W.heap.size W b := hb.trans (hF.below hb.size hB)
theorem okB_of {s : Ar} {h : Int} (h1 : isH h) (h2 : bN h + zN h ≤ s.nw) (h3 : s.gen (bN h) < opB h) (h4 : ∀ p, inS h p → s.tak p = false) : bornA s h = (bornS s h, true) := by
  unfold bornA
  rw [if_pos ⟨h1, h2, h3, h4⟩]
theorem okB_no {s : Ar} {h : Int} (h1 : ¬ okB s h) : bornA s h = (s, false) := by
  unfold bornA
  rw [if_neg h1]
theorem retire_of {s : Ar} {h : Int} (h1 : s.st h = 1) : retireA s h = (retireS s h, true) := if_pos h1
theorem died_of {s : Ar} {h : Int} (h1 : s.st h = 2) : diedA s h = (diedS s h, true) := if_pos h1
theorem store_in {s : Ar} {h i v : Int} (hi : inW s h i) : storeA s h i v = { useA s with mem := upN s.mem (atW h i) v } := if_pos hi
theorem load_in {s : Ar} {h i : Int} (hi : inW s h i) : loadA s h i = (useA s, s.mem (atW h i)) := if_pos hi
theorem load_out {s : Ar} {h i : Int} (hi : ¬ inW s h i) : loadA s h i = (badA s, 0) := if_neg hi
theorem born_st (s : Ar) (k : Int) : (bornS s k).st k = 1 := upI_same s.st k 1
theorem born_st' (s : Ar) {k j : Int} (h : j ≠ k) : (bornS s k).st j = s.st j := upI_other s.st 1 h
theorem born_gen (s : Ar) (k : Int) : (bornS s k).gen (bN k) = opB k := upI_same s.gen _ _
theorem retire_st (s : Ar) (k : Int) : (retireS s k).st k = 2 := upI_same s.st k 2
theorem retire_st' (s : Ar) {k j : Int} (h : j ≠ k) : (retireS s k).st j = s.st j := upI_other s.st 2 h
theorem died_st (s : Ar) (k : Int) : (diedS s k).st k = 0 := upI_same s.st k 0
theorem died_st' (s : Ar) {k j : Int} (h : j ≠ k) : (diedS s k).st j = s.st j := upI_other s.st 0 h
def aw0 : Ar := new9 4 64 false
def awH : Int := packV 8 1 0
theorem aw_h : isH awH ∧ bN awH = 8 ∧ zN awH = 8 ∧ opB awH = 1 := by
  have ho : okP 8 1 0 := by decide
  refine ⟨isH_pack ho, ?_, ?_, opB_pack ho⟩
  · exact bN_pack ho
  · exact zN_pack ho
def aw1 : Ar := bornS aw0 awH
def aw2 : Ar := { useA aw1 with mem := upN aw1.mem (atW awH 3) 77 }
def aw3 : Ar := useA aw2
def aw4 : Ar := retireS aw3 awH
def aw5 : Ar := diedS aw4 awH
def aw6 : Ar := badA aw5
theorem aw_born : bornA aw0 awH = (aw1, true) := by
  obtain ⟨h1, h2, h3, h4⟩ := aw_h
  exact okB_of h1 (by rw [h2, h3]; decide) (by rw [h4]; decide) fun p _ => rfl
theorem aw_st1 : aw1.st awH = 1 := born_st aw0 awH
theorem aw_born2 : bornA aw1 awH = (aw1, false) := by
  refine okB_no fun h => ?_
  have := h.2.2.1
  rw [show aw1.gen (bN awH) = opB awH from born_gen aw0 awH] at this
  omega
theorem aw_in1 : inW aw1 awH 3 := ⟨by rw [aw_st1]; decide, by decide, by rw [aw_h.2.2.1]; decide⟩
theorem aw_store : storeA aw1 awH 3 77 = aw2 := store_in aw_in1
theorem aw_load : loadA aw2 awH 3 = (aw3, 77) := by
  rw [load_in (show inW aw2 awH 3 from aw_in1)]
  show (aw3, upN aw1.mem (atW awH 3) 77 (atW awH 3)) = _
  rw [upN_same]
theorem aw_bad3 : aw3.bad = false := rfl
theorem aw_retire : retireA aw3 awH = (aw4, true) := retire_of aw_st1
theorem aw_died : diedA aw4 awH = (aw5, true) := died_of (retire_st aw3 awH)
theorem aw_load2 : loadA aw5 awH 3 = (aw6, 0) := load_out fun h => h.1 (died_st aw4 awH)
theorem aw_bad6 : aw6.bad = true := rfl
theorem aw_uses : aw6.uses = 3 := by kernel_rfl
theorem aw_pack (w : World) (hT : HTab w) : Calls Tryd.prog 61 #[.int .i64 8, .int .i64 1, .int .i64 0] w fun e w' => e = .returned (.int .i64 awH) ∧ Below w.heap.size w w' := H8.Pack_ok (by decide) w hT
end Go.Proofs.YtopnkfbcphbbiaaDoor.A9
