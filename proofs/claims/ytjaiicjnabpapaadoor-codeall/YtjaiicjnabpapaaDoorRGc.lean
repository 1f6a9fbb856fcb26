/-
  The reference's Get, cut: in_short.
-/
import Derived.Test.YtjaiicjnabpapaaDoorRGa
namespace Go.Proofs.YtjaiicjnabpapaaDoor
open Go.RowKit

set_option maxHeartbeats 4000000 in
set_option maxRecDepth 1000000 in
theorem in_short {l : List UInt8} {i N : Nat} {W : World} {k b : Nat} {xs : List In} {fv : Value} {wr : World} (hs : l.length ≤ 3000) (hN : N ≤ 255) (_hb : b ≤ l.length) (hxl : xs.length = k) (hown : wr.ownsRow W.heap.size 26 4 fv xs.length (cellsI xs)) (hBl : Below W.heap.size W wr) (hIn : InnerOk l i N k b xs) (hkN : k < N) (hb4 : b + 4 ≤ l.length) (ho : byteAt l b = 1) (h6 : ¬ b + 6 ≤ l.length)
    (c1 c2 c3 c4 c6 c12 c13 c14 c15 c16 c17 c18 c19 c20 c21 c22 c23 c24 c25 c26 c27 c28 c29 c30 c31 c32 c33 c34 c35 c36 c37 c38 c39 c40 c41 c42 c43 c44 c45 c46 c47 c48 c49 c50 c51 c128 c129 c130 c131 c132 c133 c134 c135 c136 c137 c138 c139 c140 c141 c142 c143 c144 c145 c146 c147 u10 u11 u52 u53 u54 u55 u56 u57 u58 u59 u60 u61 u62 u63 u64 u65 u66 u67 u68 u69 u70 u71 u72 u73 u74 u75 u76 u77 u78 u79 u80 u81 u82 u83 u84 u85 u86 u87 u88 u89 u90 u91 u92 u93 u94 u95 u96 u97 u98 u99 u100 u101 u102 u103 u104 u105 u106 u107 u108 u109 u110 u111 u112 u113 u114 u115 u116 u117 u118 u119 u120 u121 u122 u123 u124 u125 u126 u127 : Value) (Q0 : Exit → Act → World → Prop) :
    Code.wp Tryd.prog ibody (Exit.then (fun a' w'' => WI l i N W c1 c2 c3 c4 c6 c12 c13 c14 c15 c16 c17 c18 c19 c20 c21 c22 c23 c24 c25 c26 c27 c28 c29 c30 c31 c32 c33 c34 c35 c36 c37 c38 c39 c40 c41 c42 c43 c44 c45 c46 c47 c48 c49 c50 c51 c128 c129 c130 c131 c132 c133 c134 c135 c136 c137 c138 c139 c140 c141 c142 c143 c144 c145 c146 c147 a' w'' ∧ Wmu N a' w'' < Wmu N ⟨#[.string (strB l), c1, c2, c3, c4, .int .i64 (b : Int), c6, fv, .int .i64 (N : Int), .int .i64 (k : Int), u10, u11, c12, c13, c14, c15, c16, c17, c18, c19, c20, c21, c22, c23, c24, c25, c26, c27, c28, c29, c30, c31, c32, c33, c34, c35, c36, c37, c38, c39, c40, c41, c42, c43, c44, c45, c46, c47, c48, c49, c50, c51, u52, u53, u54, u55, u56, u57, u58, u59, u60, u61, u62, u63, u64, u65, u66, u67, u68, u69, u70, u71, u72, u73, u74, u75, u76, u77, u78, u79, u80, u81, u82, u83, u84, u85, u86, u87, u88, u89, u90, u91, u92, u93, u94, u95, u96, u97, u98, u99, u100, u101, u102, u103, u104, u105, u106, u107, u108, u109, u110, u111, u112, u113, u114, u115, u116, u117, u118, u119, u120, u121, u122, u123, u124, u125, u126, u127, c128, c129, c130, c131, c132, c133, c134, c135, c136, c137, c138, c139, c140, c141, c142, c143, c144, c145, c146, c147], []⟩ wr) (QB Q0)) ⟨#[.string (strB l), c1, c2, c3, c4, .int .i64 (b : Int), c6, fv, .int .i64 (N : Int), .int .i64 (k : Int), u10, u11, c12, c13, c14, c15, c16, c17, c18, c19, c20, c21, c22, c23, c24, c25, c26, c27, c28, c29, c30, c31, c32, c33, c34, c35, c36, c37, c38, c39, c40, c41, c42, c43, c44, c45, c46, c47, c48, c49, c50, c51, u52, u53, u54, u55, u56, u57, u58, u59, u60, u61, u62, u63, u64, u65, u66, u67, u68, u69, u70, u71, u72, u73, u74, u75, u76, u77, u78, u79, u80, u81, u82, u83, u84, u85, u86, u87, u88, u89, u90, u91, u92, u93, u94, u95, u96, u97, u98, u99, u100, u101, u102, u103, u104, u105, u106, u107, u108, u109, u110, u111, u112, u113, u114, u115, u116, u117, u118, u119, u120, u121, u122, u123, u124, u125, u126, u127, c128, c129, c130, c131, c132, c133, c134, c135, c136, c137, c138, c139, c140, c141, c142, c143, c144, c145, c146, c147], []⟩ wr := by
  obtain ⟨i0, hi', hz0, hz1', hz2⟩ := info_parts infoIns
  have zs : (strB l).size = l.length := strB_size l
  have HIN : Hid (InnerOk l i N k b xs) := hIn
  have HXL : Hid (xs.length = k) := hxl
  have hxb : xs.length ≤ 255 := by omega
  have hsz := hBl.size
  clear hIn hxl
  have hdb : decide ((b : Int) + 4 ≤ (l.length : Int)) = true := by simp; omega
  have j0 := fun wx => idx_at l b b rfl (by omega) wx
  have j1 := fun wx => idx_at l (b + 1) ((b : Int) + 1) (by omega) (by omega) wx
  have j2 := fun wx => idx_at l (b + 2) ((b : Int) + 2) (by omega) (by omega) wx
  have j3 := fun wx => idx_at l (b + 3) ((b : Int) + 3) (by omega) (by omega) wx
  have bd0 := byteAt_bd l b
  have bd1 := byteAt_bd l (b + 1)
  have bd2 := byteAt_bd l (b + 2)
  have bd3 := byteAt_bd l (b + 3)
  obtain ⟨y0, hy0⟩ : ∃ y, byteAt l b = y := ⟨_, rfl⟩
  obtain ⟨y1, hy1⟩ : ∃ y, byteAt l (b + 1) = y := ⟨_, rfl⟩
  obtain ⟨y2, hy2⟩ : ∃ y, byteAt l (b + 2) = y := ⟨_, rfl⟩
  obtain ⟨y3, hy3⟩ : ∃ y, byteAt l (b + 3) = y := ⟨_, rfl⟩
  rw [hy0] at j0 bd0 ho
  rw [hy1] at j1 bd1
  rw [hy2] at j2 bd2
  rw [hy3] at j3 bd3
  have Y0 : Hid (byteAt l b = y0) := hy0
  have Y1 : Hid (byteAt l (b + 1) = y1) := hy1
  have Y2 : Hid (byteAt l (b + 2) = y2) := hy2
  have Y3 : Hid (byteAt l (b + 3) = y3) := hy3
  clear hy0 hy1 hy2 hy3
  have hw1 := wrap_small ((b : Int) + 1) (by omega) (by omega)
  have hw2 := wrap_small ((b : Int) + 2) (by omega) (by omega)
  have hw3 := wrap_small ((b : Int) + 3) (by omega) (by omega)
  have j1w : ∀ wx, (Instr.index 9 (.string (strB l)) (.int .i64 (IntKind.i64.wrap ((b : Int) + 1)))).run Tryd.prog wx = .ok (.int .u8 y1) wx := fun wx => by rw [hw1]; exact j1 wx
  have j2w : ∀ wx, (Instr.index 9 (.string (strB l)) (.int .i64 (IntKind.i64.wrap ((b : Int) + 2)))).run Tryd.prog wx = .ok (.int .u8 y2) wx := fun wx => by rw [hw2]; exact j2 wx
  have j3w : ∀ wx, (Instr.index 9 (.string (strB l)) (.int .i64 (IntKind.i64.wrap ((b : Int) + 3)))).run Tryd.prog wx = .ok (.int .u8 y3) wx := fun wx => by rw [hw3]; exact j3 wx
  have HI2 : Hid (InnerOk l i N (k + 1) (b + 4) (xs ++ [⟨1, y1, y2, y3⟩])) := short_in HIN.out hkN (by rw [Y0.out]; exact ho) h6
  have hd6 : decide ((b : Int) + 4 + 2 ≤ (l.length : Int)) = false := by simp; omega
  have hd6b : decide ((b : Int) + 6 ≤ (l.length : Int)) = false := by simp; omega
  subst ho
  clear h6
  conv => arg 2; whnf
  go_wp2_with fail
  go_region
  clear j0 j1 j2 j3 j1w j2w j3w hw1 hw2 hw3
  go_wp2_with (at_builtin; refine wpList_append_lies _ rfl (.tmp 124) (.tmp 126) 42 rfl W.heap.size 26 i0 (.agg #[.int .i64 0, .int .i64 0, .int .i64 0, .int .i64 0]) 4 32 Tryd.underlying42 hi' hz0 hz1' hz2 rfl (by decide) fv xs.length (cellsI xs) rfl ?cR ⟨wr.heap.size + 1, 0, none⟩ 1 1 (insC ⟨1, y1, y2, y3⟩) ?c0 rfl ?c1 (insC_one _) (by omega) ?c2 ?c3 ?c4 _ rfl ?_)
  case cR => exact ((hown.alloc _).alloc _)
  case c0 => simp [Act.eval]
  case c1 => exact insC_new2 wr ⟨1, y1, y2, y3⟩ _ _ _
  case c2 => unfold maxLen; omega
  case c3 => omega
  case c4 => simp; omega
  intro g7 cap7 w7 hown7 hgrow7 hat7 hlt7
  have hbn : Below W.heap.size W w7 := below_grow (b := ((wr.alloc (.cells #[.int .i64 1, .int .i64 y1, .int .i64 y2, .int .i64 y3] 26)).alloc (.cells #[.int .i64 1, .int .i64 y1, .int .i64 y2, .int .i64 y3] 26)).drew) ((hBl.alloc hBl.size _).alloc (by simp; omega) _).drew (by simp; omega) hgrow7 fun j hj => (hown.lt j hj).1
  clear hgrow7 hat7 hlt7
  have hrow : w7.ownsRow W.heap.size 26 4 (.slice (some ⟨g7, 0, none⟩) (xs.length + 1) cap7) (xs ++ [(⟨1, y1, y2, y3⟩ : In)]).length (cellsI (xs ++ [(⟨1, y1, y2, y3⟩ : In)])) := by rw [cellsI_snoc, List.length_append]; exact hown7
  go_wp2_with fail
  refine ⟨?_, by simp [Wmu, intOf]; omega⟩
  unfold WI
  refine ⟨_, _, _, _, _, _, _, _, _, _, _, _, _, _, _, _, _, _, _, _, _, _, _, _, _, _, _, _, _, _, _, _, _, _, _, _, _, _, _, _, _, _, _, _, _, _, _, _, _, _, _, _, _, _, _, _, _, _, _, _, _, _, _, _, _, _, _, _, _, _, _, _, _, _, _, _, _, _, _, _, _, ?_, rfl⟩
  exact ⟨k + 1, b + 4, xs ++ [⟨1, y1, y2, y3⟩], by omega, by omega, by go_num, by go_num, by simp [HXL.out], hrow, hbn, HI2.out⟩

end Go.Proofs.YtjaiicjnabpapaaDoor
