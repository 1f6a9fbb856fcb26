/-
  Helpers: Kh, Ki, Zu.
-/
import Derived.Test.YtopnkfbcphbbiaaDoorBuna4c23b05b848
import Derived.Test.YtopnkfbcphbbiaaDoorBunc2e49074374f
namespace Go.Proofs.YtopnkfbcphbbiaaDoor
open Go.RowKit
open H8 (okP sizeF HTab below_then)
open A9 (Ab ArAt FrA Ar setRawA rawA storeA retireA retireS useA ptrA Ok9 upN Left9 SrcN retire_of)
open F0 (Pl5 Tn FrS noT plBox plS plS_of Wk)
open S1 (RowO PlS plK grs)

section
variable {B : Ab} {W w w' : World} {s s' : Ar} {p : Pl5} {k X b6 b8 bP bH L : Nat} {ph hd : Nat → Int} {v15 v16 : Value} {rt : List Int} {T : Nat} {c y : Int}
theorem Kg.raw (h : Kg B W w s p k X b6 b8 bP bH L v15 v16 c rt ph hd T y) (hA : ArAt B w' (storeA s y 0 y)) : Calls Tryd.prog 28 #[ptrA B, .int .i64 ((X : Int) + 2 * (k : Int))] w' (Left9 B w' (.int .i64 c) (useA (storeA s y 0 y))) := by
  have h1 := A9.Raw_any hA ((X + 2 * k : Nat) : Int)
  rw [h.g.raw, show ((X + 2 * k : Nat) : Int) = (X : Int) + 2 * (k : Int) by omega] at h1
  exact h1
theorem Kg.setRaw (hA : ArAt B w' (useA (storeA s y 0 y))) (k X : Nat) : Calls Tryd.prog 11 #[ptrA B, .int .i64 ((X : Int) + 2 * (k : Int)), .int .i64 y] w' (Left9 B w' (.tuple #[]) (setRawA (useA (storeA s y 0 y)) ((X + 2 * k : Nat) : Int) y)) := by
  have h1 := A9.SetRaw_any hA ((X + 2 * k : Nat) : Int) y
  rw [show ((X : Int) + 2 * (k : Int)) = ((X + 2 * k : Nat) : Int) by omega]
  exact h1
theorem Kg.retire (h : Kg B W w s p k X b6 b8 bP bH L v15 v16 c rt ph hd T y) (hc : c ≠ 0) (hA : ArAt B w' (setRawA (useA (storeA s y 0 y)) ((X + 2 * k : Nat) : Int) y)) : Calls Tryd.prog 29 #[ptrA B, .int .i64 c] w' (Left9 B w' (.bool true) (keepS k X s c y)) := by
  have h1 := A9.Retire_any hA c
  have hst : (setRawA (useA (storeA s y 0 y)) ((X + 2 * k : Nat) : Int) y).st c = 1 := by
    rw [h.g.set]
    exact h.g.lives (List.mem_append_left _ (mem_cell hc))
  rw [retire_of hst] at h1
  unfold keepS
  rw [if_neg hc]
  exact h1
theorem keep_zero : keepS k X s 0 y = setRawA (useA (storeA s y 0 y)) ((X + 2 * k : Nat) : Int) y := if_pos rfl
theorem Kg.fin (h : Kg B W w s p k X b6 b8 bP bH L v15 v16 c rt ph hd T y) (hA : ArAt B w' (keepS k X s c y)) (hF : FrA B w w') (hT : T ≤ 1000000) : Km B W w' (keepS k X s c y) p k X b6 b8 bP bH L ph hd ∧ RowO w' L v16 rt ∧ Kp k X (keepS k X s c y) y (if c = 0 then rt else rt ++ [c]) .idle ph hd T :=
  ⟨h.m.arena hA hF, h.r.kept fun g hg => hF.block g (h.r.lt g hg).2 (h.m.old.no (h.r.lt g hg).1), h.g.kept h.m.wk.ar.ok hT⟩
end
end Go.Proofs.YtopnkfbcphbbiaaDoor
namespace Go.Proofs.YtopnkfbcphbbiaaDoor
open Go.RowKit
open H8 (okP sizeF HTab below_then)
open A9 (Ab ArAt FrA Ar setRawA rawA useA ptrA Ok9 upN Left9)
open F0 (Pl5 FrS)
open S1 (RowO PlS plK grs)

section
variable {B : Ab} {W w w' : World} {s s' : Ar} {p : Pl5} {k X b6 b8 bP bH L a : Nat} {ph hd : Nat → Int} {v14 v15 v16 : Value} {rt : List Int} {md : Md} {T : Nat} {c x y : Int}
theorem Kx.setP (h : Kx B W w s p k X b6 b8 bP bH L v14 v15 v16 c rt md ph hd T) (a : Nat) (y : Int) (hp : Kp k X s c rt md (upN ph a y) hd T) : Kx B W (w.setCell ⟨bP, a, none⟩ (.int .i64 y)) s p k X b6 b8 bP bH L v14 v15 v16 c rt md (upN ph a y) hd T :=
  h.turn (h.m.setP a y) (by simp) (fun z hz _ => Below.heap_setCell _ _ _ _ (by have := h.m.lt; show z ≠ bP; omega)) hp
theorem Kx.setHP (h : Kx B W w s p k X b6 b8 bP bH L v14 v15 v16 c rt md ph hd T) (a : Nat) (x y : Int) (hp : Kp k X s c rt md (upN ph a y) (upN hd a x) T) : Kx B W ((w.setCell ⟨bH, a, none⟩ (.int .i64 x)).setCell ⟨bP, a, none⟩ (.int .i64 y)) s p k X b6 b8 bP bH L v14 v15 v16 c rt md (upN ph a y) (upN hd a x) T :=
  h.turn ((h.m.setH a x).setP a y) (by simp) (fun z hz _ => (Below.heap_setCell _ _ _ _ (by have := h.m.lt; show z ≠ bP; omega)).trans (Below.heap_setCell _ _ _ _ (by have := h.m.lt; show z ≠ bH; omega))) hp
theorem Kx.raw (h : Kx B W w s p k X b6 b8 bP bH L v14 v15 v16 c rt md ph hd T) (hA : ArAt B w' s) : Calls Tryd.prog 28 #[ptrA B, .int .i64 ((X : Int) + 2 * (k : Int))] w' (Left9 B w' (.int .i64 c) (useA s)) := by
  have h1 := A9.Raw_any hA ((X + 2 * k : Nat) : Int)
  rw [h.p.raw_cell, show ((X + 2 * k : Nat) : Int) = (X : Int) + 2 * (k : Int) by omega] at h1
  exact h1
theorem word_K (hX : X ≤ 200) (ha : a < k) (hk : k ≤ 6) (wx : World) : Calls Tryd.prog 12 #[.agg #[.int .i64 (k : Int), .int .i64 (X : Int)], .int .i64 (a : Int), .int .i64 0] wx fun e w' => e = .returned (.int .i64 ((X + 2 * a : Nat) : Int)) ∧ Below wx.heap.size wx w' := Word_nat (k : Int) X a 0 (by omega) (by omega) (by omega) wx
/-- the arena, then a phase -/
theorem Kx.armP (h : Kx B W w s p k X b6 b8 bP bH L v14 v15 v16 c rt md ph hd T) (hm : Km B W w' s' p k X b6 b8 bP bH L ph hd) (hF : FrA B w w') (a : Nat) (y : Int) (hp : Kp k X s' c rt md (upN ph a y) hd T) : Kx B W (w'.setCell ⟨bP, a, none⟩ (.int .i64 y)) s' p k X b6 b8 bP bH L v14 v15 v16 c rt md (upN ph a y) hd T :=
  h.turn (hm.setP a y) (by have := hF.size; simpa using this) (fun z hz hl => (Below.heap_setCell _ _ _ _ (by have := h.m.lt; show z ≠ bP; omega)).trans (hF.block z hl (h.m.old.no hz))) hp
theorem Still.refl (k X : Nat) (s : Ar) : Still k X s s := ⟨fun _ _ => rfl, rfl, rfl, rfl, rfl, rfl, rfl, rfl, rfl, rfl, rfl, rfl, rfl⟩
theorem upN_up (f : Nat → Int) (a : Nat) (x y : Int) : upN (upN f a x) a y = upN f a y := by
  funext i
  unfold upN
  split <;> rfl
theorem Kx.load (h : Kx B W w s p k X b6 b8 bP bH L v14 v15 v16 c rt md ph hd T) (h1 : 1 ≤ a) (h2 : a < k) (h3 : 3 ≤ ph a) (hA : ArAt B w' s) : Calls Tryd.prog 30 #[ptrA B, .int .i64 (hd a), .int .i64 0] w' (Left9 B w' (.int .i64 (hd a)) (useA s)) := by
  have h1 := A9.Load_any hA (hd a) 0
  rw [h.p.load (by assumption) h2 h3] at h1
  exact h1
end
end Go.Proofs.YtopnkfbcphbbiaaDoor
namespace Go.Proofs.YtopnkfbcphbbiaaDoor
open Go.RowKit
open H8 (okP sizeF HTab below_then packV packF isH)
open A9 (Ab ArAt ArMem FrA Ar rawA setRawA useA ptrA Ok9 MapI But SrcN Left9 isTab htab_keep upF src_one bN retireS New9 new9 upN upN_other inR)
open F0 (Pl5 Tn PuAt PoAt FrS noT noT_new plBox plS plS_of below_next Wk Pu Po upO headF headF_eq)
open S1 (RowO MAt Mc Out FeM FeR stepF grN clN clN_lt PlS AlM AlR AlN plK plK_ok plK_wk grs newAlW ifAl Run Inv)

theorem wpOp_yes {P : Program} {ops : Array Oper} {Q : Exit → Act → World → Prop} {i : Nat} {K : Act → World → Prop} {a : Act} {w : World} {o : Oper} (h : ops[i]? = some o) (hw : Region.wanted o (yielded ops a.tmps) = true) (h2 : Oper.wp P o a w K Q) : wpOp P ops Q i K a w := by
  unfold wpOp
  rw [h]
  simp only
  rw [if_pos hw]
  exact .inl h2
theorem wpAnyH_one {P : Program} {md : Region.Mode} {ops : Array Oper} {Q : Exit → Act → World → Prop} {S : World → Prop} {i fuel : Nat} {listed : Array Bool} {a : Act} {w : World} {o : Oper} (h : ops[i]? = some o) (hr : Region.ready md ops listed = [i]) (hw : Region.wanted o (yielded ops a.tmps) = true) (h2 : Oper.wp P o a w (fun a' w' => S w' ∧ wpAnyH P md ops Q S fuel (listed.setIfInBounds i true) a' w') Q) : wpAnyH P md ops Q S (fuel + 1) listed a w :=
  wpAnyH_ready hr (by simp) fun j hj => by
    obtain rfl : j = i := by simpa using hj
    exact wpOp_yes h hw h2
section
variable {B : Ab} {w w' : World} {s : Ar}
set_option maxHeartbeats 4000000 in
set_option maxRecDepth 4000 in
theorem awake_any (w : World) (hT : HTab w) : Calls Tryd.prog 10 #[] w fun e w' => e = .returned (.bool true) ∧ Below w.heap.size w w' := by
  have kM : Calls Tryd.prog 9 #[.int .i64 2, .int .i64 2] w (MadeP w 2 2) := make1_any (k := 2) (n := 2) hT (by omega) (by omega) (by omega)
  go_enter Tryd.func10, Tryd.ntmps10
  go_wp2_with fail
  refine kM.mono ?_
  rintro e w1 ⟨B, s, v, l, rfl, hA, hI, hnr, hrow, hb, hBo, hv⟩
  have hR := Rt.of hI hnr
  have hfar := hI.far
  obtain ⟨h0, h1, rfl⟩ : ∃ h0 h1, l = [h0, h1] := by
    have := hI.len
    match l, this with
    | [a, b], _ => exact ⟨a, b, rfl⟩
  obtain ⟨r, off, cap, rfl, c0, hc1, hc2⟩ := row_at hrow (j := 0) (x := h0) rfl
  obtain ⟨r', off', cap', e', c1, -, -⟩ := row_at hrow (j := 1) (x := h1) rfl
  cases e'
  obtain ⟨p, hp⟩ : ∃ p, p = plK 2 (8 * 2) := ⟨_, rfl⟩
  rw [← hp]
  unfold Pl5.v
  rw [show ((4 * 2 + grs (8 * 2) + grs (8 * 2) + 1 : Nat) : Int) = 13 from rfl]
  have hL := Lw.begin (w := w1) hA hrow hb hBo hv p 2 13
  have HR : Hid ((Rt 2 2 s [h0, h1] 400 ∧ ∀ j, wAt 2 2 ≤ j → s.raw j = 0) ∧ Lw B w ((w1.alloc (plBox p)).alloc (.cells #[.int .i64 ((2 : Nat) : Int), .int .i64 ((13 : Nat) : Int)] 28 (0, 0))) s p 2 13 w1.heap.size (w1.heap.size + 1) (.slice (some ⟨r, off, none⟩) [h0, h1].length cap) [h0, h1] ∧ PlS (4 * 2) (grs (8 * 2)) p) := ⟨⟨hR, hfar⟩, hL, by rw [hp]; exact plK_ok (a := 2) (m := 8 * 2) (by omega) (by omega)⟩
  clear hfar hA hI hnr hrow hb hBo hv hR kM hp hL
  simp only [List.length_cons, List.length_nil] at hc1
  go_wp2_with fail
  obtain ⟨w2, hw2⟩ : ∃ w2, w2 = (w1.alloc (.cells #[.int .i64 p.wk, .int .i64 p.hd, .int .i64 p.ln, .int .i64 p.gn, .int .i64 p.cv] 26 (0, 0))).alloc (.cells #[.int .i64 2, .int .i64 13] 28 (0, 0)) := ⟨_, rfl⟩
  have HL : Lw B w w2 s p 2 13 w1.heap.size (w1.heap.size + 1) (.slice (some ⟨r, off, none⟩) [h0, h1].length cap) [h0, h1] := by rw [hw2]; exact HR.out.2.1
  have HR' : Hid ((Rt 2 2 s [h0, h1] 400 ∧ ∀ j, wAt 2 2 ≤ j → s.raw j = 0) ∧ PlS (4 * 2) (grs (8 * 2)) p) := ⟨HR.out.1, HR.out.2.2⟩
  rw [← hw2]
  clear HR hw2
  have HL : Hid _ := HL
  have c2 := HL.out.c30
  have c3 := HL.out.c31
  have c4 := row_cell HL.out.row (j := 0) (x := h0) rfl
  go_region_held3 (fun w' => w'.cell? ⟨w1.heap.size + 1, 0, none⟩ = some (.int .i64 2) ∧ w'.cell? ⟨w1.heap.size + 1, 1, none⟩ = some (.int .i64 13) ∧ w'.cell? ⟨r, off, none⟩ = some (.int .i64 h0)) (first | exact ⟨c2, c3, c4⟩ | exact hS1 | exact hS2) (first
    | (go_at_call 12; refine (Word_nat 2 13 1 0 (by omega) (by omega) (by omega) _).mono ?_; rintro e w3 ⟨rfl, hb3⟩; have HL3 : Hid (Lw B w w3 s p 2 13 w1.heap.size (w1.heap.size + 1) (.slice (some ⟨r, off, none⟩) [h0, h1].length cap) [h0, h1]) := (by first | exact HL.out.below hb3 | exact (HL.out.below (Below.refl _ _).drew).below hb3); have hS1 := (show _ ∧ _ ∧ _ from ⟨HL3.out.c30, HL3.out.c31, row_cell HL3.out.row (j := 0) (x := h0) rfl⟩); clear hb3)
    | (go_at_call 11; refine (A9.SetRaw_any (by first | exact HL3.out.ar | exact HL3.out.ar.below (Below.refl _ _).drew) 15 h0).mono ?_; rintro e w4 ⟨rfl, hA4, hF4⟩; have HL4 : Hid (Lw B w w4 (setRawA s 15 h0) p 2 13 w1.heap.size (w1.heap.size + 1) (.slice (some ⟨r, off, none⟩) [h0, h1].length cap) [h0, h1]) := (by first | exact HL3.out.arena hA4 hF4 | exact (HL3.out.below (Below.refl _ _).drew).arena hA4 hF4); have hS2 := (show _ ∧ _ ∧ _ from ⟨HL4.out.c30, HL4.out.c31, row_cell HL4.out.row (j := 0) (x := h0) rfl⟩); clear hA4 hF4))
  have hR4 : Rt 2 2 (setRawA s 15 h0) [h0, h1] 401 := HR'.out.1.1.word (j := 2) (by omega) (by omega) h0
  have hraw : ∀ j, (setRawA s 15 h0).raw (wAt 2 2 + j) = if j = 2 then h0 else 0 := fun j => by
    rw [show (setRawA s 15 h0) = setRawA s ((wAt 2 2 + 2 : Nat) : Int) h0 from rfl, set_raw HR'.out.1.1 (by omega) h0 j, HR'.out.1.2 _ (by omega)]
  have h1n := (hR4.nm h1 (by simp)).2
  have h01 : h1 ≠ h0 := fun e => by
    have := hR4.nd (by omega)
    rw [e] at this
    simp at this
  have n0 : nmd (setRawA s 15 h0) (tbl 2 2 0) h0 = true := (nmd_iff 2 2 0 _ _).2 ⟨2, by omega, by rw [hraw]; rfl⟩
  have n1 : nmd (setRawA s 15 h0) (tbl 2 2 0) h1 = false := Bool.eq_false_iff.2 fun hh => by
    obtain ⟨j, -, e⟩ := (nmd_iff 2 2 0 _ _).1 hh
    rw [hraw] at e
    split at e
    · exact h01 e
    · exact h1n e
  have hfl : [h0, h1].filter (nmd (setRawA s 15 h0) (tbl 2 2 0)) = [h0] := by simp [n0, n1]
  have kN := scan_any (t := tbl 2 2 0) HL4.out.ar HR'.out.2 (hR4.ok (wk := 0) (by omega) (by omega) (by omega) (by omega) (by omega)) HL4.out.row
  have HQ : Hid (PlS (4 * 2) (grs (8 * 2)) p ∧ [h0, h1].filter (nmd (setRawA s 15 h0) (tbl 2 2 0)) = [h0] ∧ nmd (setRawA s 15 h0) (tbl 2 2 0) h0 = true ∧ nmd (setRawA s 15 h0) (tbl 2 2 0) h1 = false) := ⟨HR'.out.2, hfl, n0, n1⟩
  have c6 := HL4.out.c30
  have c7 := HL4.out.c31
  obtain ⟨d0, d1, d2, d3, d4⟩ := HL4.out.c2
  clear hR4 hraw h1n n0 n1 hfl HR' hS1 hS2 HL3 HL c0 c1 c2 c3 c4 h01
  unfold Pl5.v at kN
  go_wp2_with fail
  refine kN.mono ?_
  rintro e w5 ⟨q, rfl, hb5, kR⟩
  have HL5 : Hid (Lw B w w5 (setRawA s 15 h0) p 2 13 w1.heap.size (w1.heap.size + 1) (.slice (some ⟨r, off, none⟩) [h0, h1].length cap) [h0, h1] ∧ Below w4.heap.size w4 w5) := ⟨HL4.out.below hb5, hb5⟩
  clear kN hb5 c6 c7 d0 d1 d2 d3 d4
  obtain ⟨s4, hs4⟩ : ∃ s4, s4 = setRawA s 15 h0 := ⟨_, rfl⟩
  obtain ⟨HP, HFl, Hn0, Hn1⟩ := HQ.out
  rw [← hs4] at HFl Hn0 Hn1 kR HL5 HL4
  have HN : Hid (nmd s4 (tbl 2 2 0) h0 = true ∧ nmd s4 (tbl 2 2 0) h1 = false) := ⟨Hn0, Hn1⟩
  unfold ScanP at kR
  rw [HFl] at kR
  have KR : Hid _ := kR
  clear hs4 HQ HP HFl Hn0 Hn1 kR
  have c4 := row_cell HL5.out.1.row (j := 0) (x := h0) rfl
  have c5 := row_cell HL5.out.1.row (j := 1) (x := h1) rfl
  unfold ifSc at KR
  go_wp2_with fail
  have c4 : w5.cell? ⟨r, off, none⟩ = some (.int .i64 h0) := c4
  refine wp_region_held_drew (S := fun w' => w'.cell? ⟨r, off, none⟩ = some (.int .i64 h0)) (by kernel_rfl) c4 (fun _ => ?_)
  refine wpAnyH_one (i := 0) (o := { dst := some 30, op := Op.move (Operand.tmp 5), type := 34, pos := "law.go:59", after := #[], guard := none }) (by kernel_rfl) (by kernel_rfl) (by kernel_rfl) ?_
  go_wp2_with fail
  refine wpAnyH_one (i := 1) (o := { dst := some 31, op := Op.binOp BinOp.neq 34 (Operand.tmp 30) (Operand.const (Value.pointer none)) 34, type := 4, pos := "law.go:59", after := #[{ on := 0, ground := Ground.data }], guard := none }) (by kernel_rfl) (by kernel_rfl) (by kernel_rfl) ?_
  go_wp2_with fail
  refine wpAnyH_one (i := 2) (o := { dst := some 32, op := Op.move (Operand.tmp 31), type := 4, pos := "law.go:59", after := #[{ on := 1, ground := Ground.data }], guard := none }) (by kernel_rfl) (by kernel_rfl) (by kernel_rfl) ?_
  go_wp2_with fail
  refine wpAnyH_take (i := 3) (oi := { dst := some 33, op := Op.move (Operand.tmp 1), type := 24, pos := "law.go:59", after := #[{ on := 2, ground := Ground.guard }], guard := some (2, true) }) (v := ptrA B) (by kernel_rfl) (by kernel_rfl) (by kernel_rfl) (by kernel_rfl) (fun _ _ _ h => h) (.inl ⟨by kernel_rfl, fun w hw => by kernel_rfl⟩) (by first | exact c4 | exact c64) ?_
  refine wpAnyH_one (i := 4) (o := { dst := some 34, op := Op.move (Operand.tmp 5), type := 34, pos := "law.go:59", after := #[{ on := 2, ground := Ground.guard }], guard := some (2, true) }) (by kernel_rfl) (by kernel_rfl) (by kernel_rfl) ?_
  go_wp2_with fail
  refine wpAnyH_one (i := 5) (o := { dst := some 35, op := Op.makeInterface 34 (Operand.tmp 34), type := 75, pos := "law.go:59", after := #[{ on := 4, ground := Ground.data }, { on := 2, ground := Ground.guard }], guard := some (2, true) }) (by kernel_rfl) (by kernel_rfl) (by kernel_rfl) ?_
  go_wp2_with fail
  refine wpAnyH_one (i := 6) (o := { dst := some 36, op := Op.call { callee := Callee.value (Operand.func 16), args := #[Operand.tmp 33, Operand.tmp 35], argTypes := #[24, 75] }, type := 4, pos := "law.go:59", after := #[{ on := 3, ground := Ground.data }, { on := 5, ground := Ground.data }, { on := 2, ground := Ground.chain }, { on := 2, ground := Ground.guard }], guard := some (2, true) }) (by kernel_rfl) (by kernel_rfl) (by kernel_rfl) ?_
  go_wp2_with fail
  refine (KR.out _ (Below.refl _ _).drew).mono ?_
  rintro e w6 ⟨rfl, s6, hD, hE, hF⟩
  have HL6 : Hid (Lw B w w6 s6 p 2 13 w1.heap.size (w1.heap.size + 1) (.slice (some ⟨r, off, none⟩) [h0, h1].length cap) [h0, h1] ∧ ScD B p (tbl 2 2 0) q [h0] s6 w6 ∧ s6.st h0 = 2 ∧ s6.st h1 = 0) := ⟨HL4.out.arena hD.ar hF, hD, by rw [hE.dead h0 (by simp), HN.out.1]; rfl, by rw [hE.dead h1 (by simp), HN.out.2]; rfl⟩
  have c64 : w6.cell? ⟨r, off, none⟩ = some (.int .i64 h0) := row_cell HL6.out.1.row (j := 0) (x := h0) rfl
  clear hD hE hF c4 c5
  go_wp2_with fail
  refine wpAnyH_one (i := 7) (o := { dst := some 37, op := Op.pick (Operand.tmp 32) (Operand.tmp 36) (Operand.const (Value.bool false)), type := 4, pos := "law.go:59", after := #[{ on := 2, ground := Ground.data }, { on := 6, ground := Ground.data }], guard := none }) (by kernel_rfl) (by kernel_rfl) (by kernel_rfl) ?_
  go_wp2_with fail
  refine wpAnyH_one (i := 8) (o := { dst := some 38, op := Op.move (Operand.tmp 37), type := 4, pos := "law.go:59", after := #[{ on := 7, ground := Ground.data }, { on := 6, ground := Ground.chain }], guard := none }) (by kernel_rfl) (by kernel_rfl) (by kernel_rfl) ?_
  go_wp2_with fail
  refine wpAnyH_one (i := 9) (o := { dst := some 39, op := Op.move (Operand.tmp 5), type := 34, pos := "law.go:59", after := #[{ on := 8, ground := Ground.guard }], guard := some (8, true) }) (by kernel_rfl) (by kernel_rfl) (by kernel_rfl) ?_
  go_wp2_with fail
  refine wpAnyH_one (i := 10) (o := { dst := some 40, op := Op.call { callee := Callee.value (Operand.func 17), args := #[Operand.tmp 39], argTypes := #[34] }, type := 22, pos := "law.go:59", after := #[{ on := 9, ground := Ground.data }, { on := 8, ground := Ground.chain }, { on := 8, ground := Ground.guard }], guard := some (8, true) }) (by kernel_rfl) (by kernel_rfl) (by kernel_rfl) ?_
  go_wp2_with fail
  refine (HL6.out.2.1.left (by simp)).mono ?_
  rintro e w7 ⟨v7, rfl, hr7, hb7⟩
  have HL7 : Hid (Lw B w w7 s6 p 2 13 w1.heap.size (w1.heap.size + 1) (.slice (some ⟨r, off, none⟩) [h0, h1].length cap) [h0, h1] ∧ ScD B p (tbl 2 2 0) q [h0] s6 w7 ∧ s6.st h0 = 2 ∧ s6.st h1 = 0) := ⟨HL6.out.1.below hb7, HL6.out.2.1.below hb7, HL6.out.2.2⟩
  clear c64
  have c64 : w7.cell? ⟨r, off, none⟩ = some (.int .i64 h0) := row_cell HL7.out.1.row (j := 0) (x := h0) rfl
  obtain ⟨a7, cap7, rfl⟩ := hr7.len
  clear hr7 hb7
  go_wp2_with fail
  refine wpAnyH_one (i := 11) (o := { dst := some 41, op := Op.call { callee := Callee.builtin Builtin.len, args := #[Operand.tmp 40], argTypes := #[22] }, type := 3, pos := "law.go:59", after := #[{ on := 10, ground := Ground.data }, { on := 8, ground := Ground.guard }], guard := some (8, true) }) (by kernel_rfl) (by kernel_rfl) (by kernel_rfl) ?_
  go_wp2_with fail
  refine wpAnyH_one (i := 12) (o := { dst := some 42, op := Op.binOp BinOp.eql 3 (Operand.tmp 41) (Operand.const (Value.int IntKind.i64 1)) 3, type := 4, pos := "law.go:59", after := #[{ on := 11, ground := Ground.data }, { on := 8, ground := Ground.guard }], guard := some (8, true) }) (by kernel_rfl) (by kernel_rfl) (by kernel_rfl) ?_
  go_wp2_with fail
  refine wpAnyH_one (i := 13) (o := { dst := some 43, op := Op.pick (Operand.tmp 38) (Operand.tmp 42) (Operand.const (Value.bool false)), type := 4, pos := "law.go:59", after := #[{ on := 8, ground := Ground.data }, { on := 12, ground := Ground.data }], guard := none }) (by kernel_rfl) (by kernel_rfl) (by kernel_rfl) ?_
  go_wp2_with fail
  refine wpAnyH_one (i := 14) (o := { dst := some 44, op := Op.move (Operand.tmp 43), type := 4, pos := "law.go:59", after := #[{ on := 13, ground := Ground.data }, { on := 10, ground := Ground.chain }], guard := none }) (by kernel_rfl) (by kernel_rfl) (by kernel_rfl) ?_
  go_wp2_with fail
  refine wpAnyH_take (i := 15) (oi := { dst := some 45, op := Op.move (Operand.tmp 5), type := 34, pos := "law.go:59", after := #[{ on := 14, ground := Ground.guard }], guard := some (14, true) }) (v := .pointer (some ⟨q, 0, none⟩)) (by kernel_rfl) (by kernel_rfl) (by kernel_rfl) (by kernel_rfl) (fun _ _ _ h => h) (.inl ⟨by kernel_rfl, fun w hw => by kernel_rfl⟩) (by first | exact c4 | exact c64) ?_
  refine wpAnyH_take (i := 19) (oi := { dst := some 49, op := Op.move (Operand.tmp 4), type := 22, pos := "law.go:59", after := #[{ on := 14, ground := Ground.guard }], guard := some (14, true) }) (v := .slice (some ⟨r, off, none⟩) 2 cap) (by kernel_rfl) (by kernel_rfl) (by kernel_rfl) (by kernel_rfl) (fun _ _ _ h => h) (.inl ⟨by kernel_rfl, fun w hw => by kernel_rfl⟩) (by first | exact c4 | exact c64) ?_
  refine wpAnyH_take (i := 20) (oi := { dst := some 50, op := Op.indexAddr 22 (Operand.tmp 49) (Operand.const (Value.int IntKind.i64 0)), type := 0, pos := "law.go:59", after := #[{ on := 19, ground := Ground.data }, { on := 14, ground := Ground.guard }], guard := some (14, true) }) (v := .pointer (some ⟨r, off, none⟩)) (by kernel_rfl) (by kernel_rfl) (by kernel_rfl) (by kernel_rfl) (fun _ _ _ h => h) (.inl ⟨by kernel_rfl, fun w hw => by kernel_rfl⟩) (by first | exact c4 | exact c64) ?_
  refine wpAnyH_take (i := 21) (oi := { dst := some 51, op := Op.load 3 (Operand.tmp 50), type := 3, pos := "law.go:59", after := #[{ on := 20, ground := Ground.data }, { on := 14, ground := Ground.guard }], guard := some (14, true) }) (v := .int .i64 h0) (by kernel_rfl) (by kernel_rfl) (by kernel_rfl) (by kernel_rfl) (fun _ _ _ h => h) (.inl ⟨by kernel_rfl, fun w hw => by go_simp⟩) (by first | exact c4 | exact c64) ?_
  refine wpAnyH_one (i := 16) (o := { dst := some 46, op := Op.call { callee := Callee.value (Operand.func 17), args := #[Operand.tmp 45], argTypes := #[34] }, type := 22, pos := "law.go:59", after := #[{ on := 15, ground := Ground.data }, { on := 14, ground := Ground.chain }, { on := 14, ground := Ground.guard }], guard := some (14, true) }) (by kernel_rfl) (by kernel_rfl) (by kernel_rfl) ?_
  go_wp2_with fail
  refine (HL7.out.2.1.left (by simp)).mono ?_
  rintro e w8 ⟨v8, rfl, hr8, hb8⟩
  have HL8 : Hid (Lw B w w8 s6 p 2 13 w1.heap.size (w1.heap.size + 1) (.slice (some ⟨r, off, none⟩) [h0, h1].length cap) [h0, h1] ∧ ScD B p (tbl 2 2 0) q [h0] s6 w8 ∧ s6.st h0 = 2 ∧ s6.st h1 = 0) := ⟨HL7.out.1.below hb8, HL7.out.2.1.below hb8, HL7.out.2.2⟩
  clear c64
  have c64 : w8.cell? ⟨r, off, none⟩ = some (.int .i64 h0) := row_cell HL8.out.1.row (j := 0) (x := h0) rfl
  obtain ⟨r8, off8, cap8, rfl, c8', hc8, hd8⟩ := row_at hr8 (j := 0) (x := h0) rfl
  have c8 : w8.cell? ⟨r8, off8, none⟩ = some (.int .i64 h0) := c8'
  simp only [List.length_cons, List.length_nil] at hc8
  have c65 := row_cell HL8.out.1.row (j := 1) (x := h1) rfl
  clear hr8 hb8 c8'
  go_wp2_with fail
  refine wpAnyH_one (i := 17) (o := { dst := some 47, op := Op.indexAddr 22 (Operand.tmp 46) (Operand.const (Value.int IntKind.i64 0)), type := 0, pos := "law.go:59", after := #[{ on := 16, ground := Ground.data }, { on := 14, ground := Ground.guard }], guard := some (14, true) }) (by kernel_rfl) (by kernel_rfl) (by kernel_rfl) ?_
  go_wp2_with fail
  refine wpAnyH_one (i := 18) (o := { dst := some 48, op := Op.load 3 (Operand.tmp 47), type := 3, pos := "law.go:59", after := #[{ on := 17, ground := Ground.data }, { on := 14, ground := Ground.guard }], guard := some (14, true) }) (by kernel_rfl) (by kernel_rfl) (by kernel_rfl) ?_
  go_wp2_with fail
  refine wpAnyH_one (i := 22) (o := { dst := some 52, op := Op.binOp BinOp.eql 3 (Operand.tmp 48) (Operand.tmp 51) 3, type := 4, pos := "law.go:59", after := #[{ on := 18, ground := Ground.data }, { on := 21, ground := Ground.data }, { on := 14, ground := Ground.guard }], guard := some (14, true) }) (by kernel_rfl) (by kernel_rfl) (by kernel_rfl) ?_
  go_wp2_with fail
  refine wpAnyH_one (i := 23) (o := { dst := some 53, op := Op.pick (Operand.tmp 44) (Operand.tmp 52) (Operand.const (Value.bool false)), type := 4, pos := "law.go:59", after := #[{ on := 14, ground := Ground.data }, { on := 22, ground := Ground.data }], guard := none }) (by kernel_rfl) (by kernel_rfl) (by kernel_rfl) ?_
  go_wp2_with fail
  refine wpAnyH_one (i := 24) (o := { dst := some 54, op := Op.move (Operand.tmp 53), type := 4, pos := "law.go:59", after := #[{ on := 23, ground := Ground.data }, { on := 16, ground := Ground.chain }], guard := none }) (by kernel_rfl) (by kernel_rfl) (by kernel_rfl) ?_
  go_wp2_with fail
  refine wpAnyH_take (i := 25) (oi := { dst := some 55, op := Op.move (Operand.tmp 1), type := 24, pos := "law.go:59", after := #[{ on := 24, ground := Ground.guard }], guard := some (24, true) }) (v := ptrA B) (by kernel_rfl) (by kernel_rfl) (by kernel_rfl) (by kernel_rfl) (fun _ _ _ h => h) (.inl ⟨by kernel_rfl, fun w hw => by kernel_rfl⟩) (by first | exact c4 | exact c64) ?_
  refine wpAnyH_one (i := 26) (o := { dst := some 56, op := Op.move (Operand.tmp 4), type := 22, pos := "law.go:59", after := #[{ on := 24, ground := Ground.guard }], guard := some (24, true) }) (by kernel_rfl) (by kernel_rfl) (by kernel_rfl) ?_
  go_wp2_with fail
  refine wpAnyH_one (i := 27) (o := { dst := some 57, op := Op.indexAddr 22 (Operand.tmp 56) (Operand.const (Value.int IntKind.i64 1)), type := 0, pos := "law.go:59", after := #[{ on := 26, ground := Ground.data }, { on := 24, ground := Ground.guard }], guard := some (24, true) }) (by kernel_rfl) (by kernel_rfl) (by kernel_rfl) ?_
  go_wp2_with fail
  refine wpAnyH_one (i := 28) (o := { dst := some 58, op := Op.load 3 (Operand.tmp 57), type := 3, pos := "law.go:59", after := #[{ on := 27, ground := Ground.data }, { on := 24, ground := Ground.guard }], guard := some (24, true) }) (by kernel_rfl) (by kernel_rfl) (by kernel_rfl) ?_
  go_wp2_with fail
  refine wpAnyH_one (i := 29) (o := { dst := some 59, op := Op.call { callee := Callee.value (Operand.func 18), args := #[Operand.tmp 55, Operand.tmp 58], argTypes := #[24, 3] }, type := 3, pos := "law.go:59", after := #[{ on := 25, ground := Ground.data }, { on := 28, ground := Ground.data }, { on := 24, ground := Ground.chain }, { on := 24, ground := Ground.guard }], guard := some (24, true) }) (by kernel_rfl) (by kernel_rfl) (by kernel_rfl) ?_
  go_wp2_with fail
  have kS := A9.State_any HL8.out.1.ar h1
  rw [HL8.out.2.2.2] at kS
  refine kS.mono ?_
  rintro e w9 ⟨rfl, rfl⟩
  clear kS
  go_wp2_with fail
  refine wpAnyH_one (i := 30) (o := { dst := some 60, op := Op.binOp BinOp.eql 3 (Operand.tmp 59) (Operand.const (Value.int IntKind.i64 0)) 3, type := 4, pos := "law.go:59", after := #[{ on := 29, ground := Ground.data }, { on := 24, ground := Ground.guard }], guard := some (24, true) }) (by kernel_rfl) (by kernel_rfl) (by kernel_rfl) ?_
  go_wp2_with fail
  refine wpAnyH_one (i := 31) (o := { dst := some 61, op := Op.pick (Operand.tmp 54) (Operand.tmp 60) (Operand.const (Value.bool false)), type := 4, pos := "law.go:59", after := #[{ on := 24, ground := Ground.data }, { on := 30, ground := Ground.data }], guard := none }) (by kernel_rfl) (by kernel_rfl) (by kernel_rfl) ?_
  go_wp2_with fail
  refine wpAnyH_one (i := 32) (o := { dst := some 62, op := Op.move (Operand.tmp 61), type := 4, pos := "law.go:59", after := #[{ on := 31, ground := Ground.data }, { on := 29, ground := Ground.chain }], guard := none }) (by kernel_rfl) (by kernel_rfl) (by kernel_rfl) ?_
  go_wp2_with fail
  refine wpAnyH_take (i := 33) (oi := { dst := some 63, op := Op.move (Operand.tmp 1), type := 24, pos := "law.go:59", after := #[{ on := 32, ground := Ground.guard }], guard := some (32, true) }) (v := ptrA B) (by kernel_rfl) (by kernel_rfl) (by kernel_rfl) (by kernel_rfl) (fun _ _ _ h => h) (.inl ⟨by kernel_rfl, fun w hw => by kernel_rfl⟩) (by first | exact c4 | exact c64) ?_
  refine wpAnyH_one (i := 34) (o := { dst := some 64, op := Op.move (Operand.tmp 4), type := 22, pos := "law.go:59", after := #[{ on := 32, ground := Ground.guard }], guard := some (32, true) }) (by kernel_rfl) (by kernel_rfl) (by kernel_rfl) ?_
  go_wp2_with fail
  refine wpAnyH_one (i := 35) (o := { dst := some 65, op := Op.indexAddr 22 (Operand.tmp 64) (Operand.const (Value.int IntKind.i64 0)), type := 0, pos := "law.go:59", after := #[{ on := 34, ground := Ground.data }, { on := 32, ground := Ground.guard }], guard := some (32, true) }) (by kernel_rfl) (by kernel_rfl) (by kernel_rfl) ?_
  go_wp2_with fail
  refine wpAnyH_one (i := 36) (o := { dst := some 66, op := Op.load 3 (Operand.tmp 65), type := 3, pos := "law.go:59", after := #[{ on := 35, ground := Ground.data }, { on := 32, ground := Ground.guard }], guard := some (32, true) }) (by kernel_rfl) (by kernel_rfl) (by kernel_rfl) ?_
  go_wp2_with fail
  refine wpAnyH_one (i := 37) (o := { dst := some 67, op := Op.call { callee := Callee.value (Operand.func 18), args := #[Operand.tmp 63, Operand.tmp 66], argTypes := #[24, 3] }, type := 3, pos := "law.go:59", after := #[{ on := 33, ground := Ground.data }, { on := 36, ground := Ground.data }, { on := 32, ground := Ground.chain }, { on := 32, ground := Ground.guard }], guard := some (32, true) }) (by kernel_rfl) (by kernel_rfl) (by kernel_rfl) ?_
  go_wp2_with fail
  have kS := A9.State_any HL8.out.1.ar h0
  rw [HL8.out.2.2.1] at kS
  refine kS.mono ?_
  rintro e w9 ⟨rfl, rfl⟩
  clear kS
  go_wp2_with fail
  refine wpAnyH_one (i := 38) (o := { dst := some 68, op := Op.binOp BinOp.eql 3 (Operand.tmp 67) (Operand.const (Value.int IntKind.i64 2)) 3, type := 4, pos := "law.go:59", after := #[{ on := 37, ground := Ground.data }, { on := 32, ground := Ground.guard }], guard := some (32, true) }) (by kernel_rfl) (by kernel_rfl) (by kernel_rfl) ?_
  go_wp2_with fail
  refine wpAnyH_one (i := 39) (o := { dst := some 69, op := Op.pick (Operand.tmp 62) (Operand.tmp 68) (Operand.const (Value.bool false)), type := 4, pos := "law.go:59", after := #[{ on := 32, ground := Ground.data }, { on := 38, ground := Ground.data }], guard := none }) (by kernel_rfl) (by kernel_rfl) (by kernel_rfl) ?_
  go_wp2_with fail
  refine wpAnyH_one (i := 40) (o := { dst := some 0, op := Op.assign (Operand.tmp 69), type := 4, pos := "law.go:59", after := #[{ on := 39, ground := Ground.data }, { on := 37, ground := Ground.chain }, { on := 0, ground := Ground.phase }, { on := 1, ground := Ground.phase }, { on := 2, ground := Ground.phase }, { on := 3, ground := Ground.phase }, { on := 4, ground := Ground.phase }, { on := 5, ground := Ground.phase }, { on := 6, ground := Ground.phase }, { on := 7, ground := Ground.phase }, { on := 8, ground := Ground.phase }, { on := 9, ground := Ground.phase }, { on := 10, ground := Ground.phase }, { on := 11, ground := Ground.phase }, { on := 12, ground := Ground.phase }, { on := 13, ground := Ground.phase }, { on := 14, ground := Ground.phase }, { on := 15, ground := Ground.phase }, { on := 16, ground := Ground.phase }, { on := 17, ground := Ground.phase }, { on := 18, ground := Ground.phase }, { on := 19, ground := Ground.phase }, { on := 20, ground := Ground.phase }, { on := 21, ground := Ground.phase }, { on := 22, ground := Ground.phase }, { on := 23, ground := Ground.phase }, { on := 24, ground := Ground.phase }, { on := 25, ground := Ground.phase }, { on := 26, ground := Ground.phase }, { on := 27, ground := Ground.phase }, { on := 28, ground := Ground.phase }, { on := 29, ground := Ground.phase }, { on := 30, ground := Ground.phase }, { on := 31, ground := Ground.phase }, { on := 32, ground := Ground.phase }, { on := 33, ground := Ground.phase }, { on := 34, ground := Ground.phase }, { on := 35, ground := Ground.phase }, { on := 36, ground := Ground.phase }, { on := 37, ground := Ground.phase }, { on := 38, ground := Ground.phase }, { on := 39, ground := Ground.phase }], guard := none }) (by kernel_rfl) (by kernel_rfl) (by kernel_rfl) ?_
  go_wp2_with fail
  refine wpAnyH_done (by kernel_rfl) ?_ _
  go_wp2_with fail
  go_ret
  exact ⟨rfl, HL8.out.1.low⟩
end
end Go.Proofs.YtopnkfbcphbbiaaDoor
