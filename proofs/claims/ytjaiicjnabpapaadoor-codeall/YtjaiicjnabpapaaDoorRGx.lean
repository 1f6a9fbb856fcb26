/-
  The reference's Get, cut: in_exit.
-/
import Derived.Test.YtjaiicjnabpapaaDoorRGa
namespace Go.Proofs.YtjaiicjnabpapaaDoor
open Go.RowKit

set_option maxHeartbeats 4000000 in
set_option maxRecDepth 1000000 in
theorem in_exit {l : List UInt8} {i N : Nat} {W : World} {k b : Nat} {xs : List In} {fv : Value} {wr : World} (hs : l.length ≤ 3000) (hN : N ≤ 255) (hb : b ≤ l.length) (hxl : xs.length = k) (hown : wr.ownsRow W.heap.size 26 4 fv xs.length (cellsI xs)) (hBl : Below W.heap.size W wr) (hIn : InnerOk l i N k b xs) (hk : k ≤ N) (hx : ¬ (k < N ∧ b + 4 ≤ l.length))
    (c1 c2 c3 c4 c6 c12 c13 c14 c15 c16 c17 c18 c19 c20 c21 c22 c23 c24 c25 c26 c27 c28 c29 c30 c31 c32 c33 c34 c35 c36 c37 c38 c39 c40 c41 c42 c43 c44 c45 c46 c47 c48 c49 c50 c51 c128 c129 c130 c131 c132 c133 c134 c135 c136 c137 c138 c139 c140 c141 c142 c143 c144 c145 c146 c147 u10 u11 u52 u53 u54 u55 u56 u57 u58 u59 u60 u61 u62 u63 u64 u65 u66 u67 u68 u69 u70 u71 u72 u73 u74 u75 u76 u77 u78 u79 u80 u81 u82 u83 u84 u85 u86 u87 u88 u89 u90 u91 u92 u93 u94 u95 u96 u97 u98 u99 u100 u101 u102 u103 u104 u105 u106 u107 u108 u109 u110 u111 u112 u113 u114 u115 u116 u117 u118 u119 u120 u121 u122 u123 u124 u125 u126 u127 : Value) (Q0 : Exit → Act → World → Prop) (hexit : ∀ a' w'', WX l i N W c1 c2 c3 c4 c6 c12 c13 c14 c15 c16 c17 c18 c19 c20 c21 c22 c23 c24 c25 c26 c27 c28 c29 c30 c31 c32 c33 c34 c35 c36 c37 c38 c39 c40 c41 c42 c43 c44 c45 c46 c47 c48 c49 c50 c51 c128 c129 c130 c131 c132 c133 c134 c135 c136 c137 c138 c139 c140 c141 c142 c143 c144 c145 c146 c147 a' w'' → QB Q0 (.exit 2) a' w'') :
    Code.wp Tryd.prog ibody (Exit.then (fun a' w'' => WI l i N W c1 c2 c3 c4 c6 c12 c13 c14 c15 c16 c17 c18 c19 c20 c21 c22 c23 c24 c25 c26 c27 c28 c29 c30 c31 c32 c33 c34 c35 c36 c37 c38 c39 c40 c41 c42 c43 c44 c45 c46 c47 c48 c49 c50 c51 c128 c129 c130 c131 c132 c133 c134 c135 c136 c137 c138 c139 c140 c141 c142 c143 c144 c145 c146 c147 a' w'' ∧ Wmu N a' w'' < Wmu N ⟨#[.string (strB l), c1, c2, c3, c4, .int .i64 (b : Int), c6, fv, .int .i64 (N : Int), .int .i64 (k : Int), u10, u11, c12, c13, c14, c15, c16, c17, c18, c19, c20, c21, c22, c23, c24, c25, c26, c27, c28, c29, c30, c31, c32, c33, c34, c35, c36, c37, c38, c39, c40, c41, c42, c43, c44, c45, c46, c47, c48, c49, c50, c51, u52, u53, u54, u55, u56, u57, u58, u59, u60, u61, u62, u63, u64, u65, u66, u67, u68, u69, u70, u71, u72, u73, u74, u75, u76, u77, u78, u79, u80, u81, u82, u83, u84, u85, u86, u87, u88, u89, u90, u91, u92, u93, u94, u95, u96, u97, u98, u99, u100, u101, u102, u103, u104, u105, u106, u107, u108, u109, u110, u111, u112, u113, u114, u115, u116, u117, u118, u119, u120, u121, u122, u123, u124, u125, u126, u127, c128, c129, c130, c131, c132, c133, c134, c135, c136, c137, c138, c139, c140, c141, c142, c143, c144, c145, c146, c147], []⟩ wr) (QB Q0)) ⟨#[.string (strB l), c1, c2, c3, c4, .int .i64 (b : Int), c6, fv, .int .i64 (N : Int), .int .i64 (k : Int), u10, u11, c12, c13, c14, c15, c16, c17, c18, c19, c20, c21, c22, c23, c24, c25, c26, c27, c28, c29, c30, c31, c32, c33, c34, c35, c36, c37, c38, c39, c40, c41, c42, c43, c44, c45, c46, c47, c48, c49, c50, c51, u52, u53, u54, u55, u56, u57, u58, u59, u60, u61, u62, u63, u64, u65, u66, u67, u68, u69, u70, u71, u72, u73, u74, u75, u76, u77, u78, u79, u80, u81, u82, u83, u84, u85, u86, u87, u88, u89, u90, u91, u92, u93, u94, u95, u96, u97, u98, u99, u100, u101, u102, u103, u104, u105, u106, u107, u108, u109, u110, u111, u112, u113, u114, u115, u116, u117, u118, u119, u120, u121, u122, u123, u124, u125, u126, u127, c128, c129, c130, c131, c132, c133, c134, c135, c136, c137, c138, c139, c140, c141, c142, c143, c144, c145, c146, c147], []⟩ wr := by
  obtain ⟨i0, hi', hz0, hz1', hz2⟩ := info_parts infoIns
  have zs : (strB l).size = l.length := strB_size l
  have HIN : Hid (InnerOk l i N k b xs) := hIn
  have HXL : Hid (xs.length = k) := hxl
  have hxb : xs.length ≤ 255 := by omega
  have hsz := hBl.size
  clear hIn hxl
  have hcase : ¬ k < N ∨ (k < N ∧ decide ((b : Int) + 4 ≤ (l.length : Int)) = false) := by
    simp
    omega
  have HX : Hid (¬ (k < N ∧ b + 4 ≤ l.length)) := hx
  clear hx
  rcases hcase with hc | ⟨hc, hc2⟩
  all_goals
    conv => arg 2; whnf
    go_wp2_with fail
    refine hexit _ _ ?_
    unfold WX
    refine ⟨_, _, _, _, _, _, _, _, _, _, _, _, _, _, _, _, _, _, _, _, _, _, _, _, _, _, _, _, _, _, _, _, _, _, _, _, _, _, _, _, _, _, _, _, _, _, _, _, _, _, _, _, _, _, _, _, _, _, _, _, _, _, _, _, _, _, _, _, _, _, _, _, _, _, _, _, _, _, _, _, _, ?_, rfl⟩
    exact ⟨k, b, xs, ⟨hk, hb, rfl, rfl, HXL.out, hown, hBl, HIN.out⟩, HX.out⟩

end Go.Proofs.YtjaiicjnabpapaaDoor
