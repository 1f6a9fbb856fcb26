/-
  The reference's Get, cut: the outer loop.
-/
import Derived.Test.YtjaiicjnabpapaaDoorRGl
namespace Go.Proofs.YtjaiicjnabpapaaDoor
open Go.RowKit

def OAt (l : List UInt8) (w : World) (x3 x4 fu : Int) (i a : Nat) (xv : Value) (vals : List Value) (fs : List (List In)) (av iv : Value) (wr : World) : Prop :=
  i ≤ 255 ∧ a ≤ l.length ∧ iv = .int .i64 i ∧ av = .int .i64 a ∧ fs.length = i ∧ (∀ f ∈ fs, f.length ≤ 255) ∧ PW w wr w.heap.size (w.heap.size + 1) xv x3 x4 fu vals fs ∧ OuterOk l i a fs
def ORel (l : List UInt8) (w : World) (x3 x4 fu : Int) (av iv : Value) (wr : World) : Prop := ∃ (i a : Nat) (xv : Value) (vals : List Value) (fs : List (List In)), OAt l w x3 x4 fu i a xv vals fs av iv wr
def OXRel (l : List UInt8) (w : World) (x3 x4 fu : Int) (av iv : Value) (wr : World) : Prop := ∃ (i a : Nat) (xv : Value) (vals : List Value) (fs : List (List In)), OAt l w x3 x4 fu i a xv vals fs av iv wr ∧ ¬ ((i : Int) < byteAt l 7 ∧ a < l.length)
set_option maxRecDepth 1000000 in
def WO (l : List UInt8) (w : World) (x3 x4 fu : Int) (c1 c2 c3 c12 c13 c14 c15 c16 c17 c18 c19 c20 c21 c22 c23 c24 c25 c26 c27 c28 c29 c30 c31 c32 c134 c135 c136 c137 c138 c139 c140 c141 c142 c143 c144 c145 c146 c147 : Value) (act : Act) (w' : World) : Prop := ∃ u5 u6 u7 u8 u9 u10 u11 u33 u34 u35 u36 u37 u38 u39 u40 u41 u42 u43 u44 u45 u46 u47 u48 u49 u50 u51 u52 u53 u54 u55 u56 u57 u58 u59 u60 u61 u62 u63 u64 u65 u66 u67 u68 u69 u70 u71 u72 u73 u74 u75 u76 u77 u78 u79 u80 u81 u82 u83 u84 u85 u86 u87 u88 u89 u90 u91 u92 u93 u94 u95 u96 u97 u98 u99 u100 u101 u102 u103 u104 u105 u106 u107 u108 u109 u110 u111 u112 u113 u114 u115 u116 u117 u118 u119 u120 u121 u122 u123 u124 u125 u126 u127 u128 u129 u130 u131 u132 u133 : Value, ORel l w x3 x4 fu u5 u6 w' ∧ act = ⟨#[.string (strB l), c1, c2, c3, .pointer (some ⟨w.heap.size + 1, 0, none⟩), u5, u6, u7, u8, u9, u10, u11, c12, c13, c14, c15, c16, c17, c18, c19, c20, c21, c22, c23, c24, c25, c26, c27, c28, c29, c30, c31, c32, u33, u34, u35, u36, u37, u38, u39, u40, u41, u42, u43, u44, u45, u46, u47, u48, u49, u50, u51, u52, u53, u54, u55, u56, u57, u58, u59, u60, u61, u62, u63, u64, u65, u66, u67, u68, u69, u70, u71, u72, u73, u74, u75, u76, u77, u78, u79, u80, u81, u82, u83, u84, u85, u86, u87, u88, u89, u90, u91, u92, u93, u94, u95, u96, u97, u98, u99, u100, u101, u102, u103, u104, u105, u106, u107, u108, u109, u110, u111, u112, u113, u114, u115, u116, u117, u118, u119, u120, u121, u122, u123, u124, u125, u126, u127, u128, u129, u130, u131, u132, u133, c134, c135, c136, c137, c138, c139, c140, c141, c142, c143, c144, c145, c146, c147], []⟩
set_option maxRecDepth 1000000 in
def OX (l : List UInt8) (w : World) (x3 x4 fu : Int) (c1 c2 c3 c12 c13 c14 c15 c16 c17 c18 c19 c20 c21 c22 c23 c24 c25 c26 c27 c28 c29 c30 c31 c32 c134 c135 c136 c137 c138 c139 c140 c141 c142 c143 c144 c145 c146 c147 : Value) (act : Act) (w' : World) : Prop := ∃ u5 u6 u7 u8 u9 u10 u11 u33 u34 u35 u36 u37 u38 u39 u40 u41 u42 u43 u44 u45 u46 u47 u48 u49 u50 u51 u52 u53 u54 u55 u56 u57 u58 u59 u60 u61 u62 u63 u64 u65 u66 u67 u68 u69 u70 u71 u72 u73 u74 u75 u76 u77 u78 u79 u80 u81 u82 u83 u84 u85 u86 u87 u88 u89 u90 u91 u92 u93 u94 u95 u96 u97 u98 u99 u100 u101 u102 u103 u104 u105 u106 u107 u108 u109 u110 u111 u112 u113 u114 u115 u116 u117 u118 u119 u120 u121 u122 u123 u124 u125 u126 u127 u128 u129 u130 u131 u132 u133 : Value, OXRel l w x3 x4 fu u5 u6 w' ∧ act = ⟨#[.string (strB l), c1, c2, c3, .pointer (some ⟨w.heap.size + 1, 0, none⟩), u5, u6, u7, u8, u9, u10, u11, c12, c13, c14, c15, c16, c17, c18, c19, c20, c21, c22, c23, c24, c25, c26, c27, c28, c29, c30, c31, c32, u33, u34, u35, u36, u37, u38, u39, u40, u41, u42, u43, u44, u45, u46, u47, u48, u49, u50, u51, u52, u53, u54, u55, u56, u57, u58, u59, u60, u61, u62, u63, u64, u65, u66, u67, u68, u69, u70, u71, u72, u73, u74, u75, u76, u77, u78, u79, u80, u81, u82, u83, u84, u85, u86, u87, u88, u89, u90, u91, u92, u93, u94, u95, u96, u97, u98, u99, u100, u101, u102, u103, u104, u105, u106, u107, u108, u109, u110, u111, u112, u113, u114, u115, u116, u117, u118, u119, u120, u121, u122, u123, u124, u125, u126, u127, u128, u129, u130, u131, u132, u133, c134, c135, c136, c137, c138, c139, c140, c141, c142, c143, c144, c145, c146, c147], []⟩
def Omu (a : Act) (_ : World) : Nat := 255 - (intOf (a.tmps.getD 6 undef)).toNat
set_option maxHeartbeats 4000000 in
set_option maxRecDepth 1000000 in
theorem out_exit {l : List UInt8} {w : World} {x3 x4 fu : Int} {i a : Nat} {xv : Value} {vals : List Value} {fs : List (List In)} {W : World} (hs : l.length ≤ 3000) (h8 : 8 ≤ l.length) (hi : i ≤ 255) (ha : a ≤ l.length) (hfl : fs.length = i) (hsm : ∀ f ∈ fs, f.length ≤ 255) (hP : PW w W w.heap.size (w.heap.size + 1) xv x3 x4 fu vals fs) (hO : OuterOk l i a fs) (hx : ¬ ((i : Int) < byteAt l 7 ∧ a < l.length))
    (c1 c2 c3 c12 c13 c14 c15 c16 c17 c18 c19 c20 c21 c22 c23 c24 c25 c26 c27 c28 c29 c30 c31 c32 c134 c135 c136 c137 c138 c139 c140 c141 c142 c143 c144 c145 c146 c147 u7 u8 u9 u10 u11 u33 u34 u35 u36 u37 u38 u39 u40 u41 u42 u43 u44 u45 u46 u47 u48 u49 u50 u51 u52 u53 u54 u55 u56 u57 u58 u59 u60 u61 u62 u63 u64 u65 u66 u67 u68 u69 u70 u71 u72 u73 u74 u75 u76 u77 u78 u79 u80 u81 u82 u83 u84 u85 u86 u87 u88 u89 u90 u91 u92 u93 u94 u95 u96 u97 u98 u99 u100 u101 u102 u103 u104 u105 u106 u107 u108 u109 u110 u111 u112 u113 u114 u115 u116 u117 u118 u119 u120 u121 u122 u123 u124 u125 u126 u127 u128 u129 u130 u131 u132 u133 : Value) (Q0 : Exit → Act → World → Prop) (hexit : ∀ a' w'', OX l w x3 x4 fu c1 c2 c3 c12 c13 c14 c15 c16 c17 c18 c19 c20 c21 c22 c23 c24 c25 c26 c27 c28 c29 c30 c31 c32 c134 c135 c136 c137 c138 c139 c140 c141 c142 c143 c144 c145 c146 c147 a' w'' → QB Q0 (.exit 0) a' w'') :
    Code.wp Tryd.prog obody (Exit.then (fun a' w'' => WO l w x3 x4 fu c1 c2 c3 c12 c13 c14 c15 c16 c17 c18 c19 c20 c21 c22 c23 c24 c25 c26 c27 c28 c29 c30 c31 c32 c134 c135 c136 c137 c138 c139 c140 c141 c142 c143 c144 c145 c146 c147 a' w'' ∧ Omu a' w'' < Omu ⟨#[.string (strB l), c1, c2, c3, .pointer (some ⟨w.heap.size + 1, 0, none⟩), .int .i64 (a : Int), .int .i64 (i : Int), u7, u8, u9, u10, u11, c12, c13, c14, c15, c16, c17, c18, c19, c20, c21, c22, c23, c24, c25, c26, c27, c28, c29, c30, c31, c32, u33, u34, u35, u36, u37, u38, u39, u40, u41, u42, u43, u44, u45, u46, u47, u48, u49, u50, u51, u52, u53, u54, u55, u56, u57, u58, u59, u60, u61, u62, u63, u64, u65, u66, u67, u68, u69, u70, u71, u72, u73, u74, u75, u76, u77, u78, u79, u80, u81, u82, u83, u84, u85, u86, u87, u88, u89, u90, u91, u92, u93, u94, u95, u96, u97, u98, u99, u100, u101, u102, u103, u104, u105, u106, u107, u108, u109, u110, u111, u112, u113, u114, u115, u116, u117, u118, u119, u120, u121, u122, u123, u124, u125, u126, u127, u128, u129, u130, u131, u132, u133, c134, c135, c136, c137, c138, c139, c140, c141, c142, c143, c144, c145, c146, c147], []⟩ W) (QB Q0)) ⟨#[.string (strB l), c1, c2, c3, .pointer (some ⟨w.heap.size + 1, 0, none⟩), .int .i64 (a : Int), .int .i64 (i : Int), u7, u8, u9, u10, u11, c12, c13, c14, c15, c16, c17, c18, c19, c20, c21, c22, c23, c24, c25, c26, c27, c28, c29, c30, c31, c32, u33, u34, u35, u36, u37, u38, u39, u40, u41, u42, u43, u44, u45, u46, u47, u48, u49, u50, u51, u52, u53, u54, u55, u56, u57, u58, u59, u60, u61, u62, u63, u64, u65, u66, u67, u68, u69, u70, u71, u72, u73, u74, u75, u76, u77, u78, u79, u80, u81, u82, u83, u84, u85, u86, u87, u88, u89, u90, u91, u92, u93, u94, u95, u96, u97, u98, u99, u100, u101, u102, u103, u104, u105, u106, u107, u108, u109, u110, u111, u112, u113, u114, u115, u116, u117, u118, u119, u120, u121, u122, u123, u124, u125, u126, u127, u128, u129, u130, u131, u132, u133, c134, c135, c136, c137, c138, c139, c140, c141, c142, c143, c144, c145, c146, c147], []⟩ W := by
  obtain ⟨i1, ki, kz0, kz1, kz2⟩ := info_parts infoFns
  have zs : (strB l).size = l.length := strB_size l
  have i7 := fun wx => idx_at l 7 7 rfl (by omega) wx
  have b7 := byteAt_bd l 7
  obtain ⟨x7, hx7⟩ : ∃ x, byteAt l 7 = x := ⟨_, rfl⟩
  rw [hx7] at i7 b7 hx
  have X7 : Hid (byteAt l 7 = x7) := hx7
  have HL : Hid (fs.length = i) := hfl
  have HSM : Hid (∀ f ∈ fs, f.length ≤ 255) := hsm
  have HO : Hid (OuterOk l i a fs) := hO
  have hvb : vals.length ≤ 255 := by rw [hP.len, hfl]; exact hi
  clear hx7 hfl hsm hO
  have hcase : decide ((i : Int) < x7) = false ∨ ((i : Int) < x7 ∧ decide ((a : Int) < (l.length : Int)) = false) := by
    simp
    omega
  have HX : Hid (¬ ((i : Int) < byteAt l 7 ∧ a < l.length)) := by rw [X7.out]; exact hx
  have hna : (i : Int) < x7 → decide (a < l.length) = false ∧ ¬ a < l.length := fun h => by simp; omega
  clear hx
  rcases hcase with hc | ⟨hc, hc2⟩
  · clear hna
    conv => arg 2; whnf
    go_wp2_with fail
    refine hexit _ _ ?_
    unfold OX
    refine ⟨_, _, _, _, _, _, _, _, _, _, _, _, _, _, _, _, _, _, _, _, _, _, _, _, _, _, _, _, _, _, _, _, _, _, _, _, _, _, _, _, _, _, _, _, _, _, _, _, _, _, _, _, _, _, _, _, _, _, _, _, _, _, _, _, _, _, _, _, _, _, _, _, _, _, _, _, _, _, _, _, _, _, _, _, _, _, _, _, _, _, _, _, _, _, _, _, _, _, _, _, _, _, _, _, _, _, _, _, ?_, rfl⟩
    exact ⟨i, a, xv, vals, fs, ⟨hi, ha, rfl, rfl, HL.out, HSM.out, hP, HO.out⟩, HX.out⟩
  · obtain ⟨hc3, hc4⟩ := hna hc
    clear hna
    conv => arg 2; whnf
    go_wp2_with fail
    refine hexit _ _ ?_
    unfold OX
    refine ⟨_, _, _, _, _, _, _, _, _, _, _, _, _, _, _, _, _, _, _, _, _, _, _, _, _, _, _, _, _, _, _, _, _, _, _, _, _, _, _, _, _, _, _, _, _, _, _, _, _, _, _, _, _, _, _, _, _, _, _, _, _, _, _, _, _, _, _, _, _, _, _, _, _, _, _, _, _, _, _, _, _, _, _, _, _, _, _, _, _, _, _, _, _, _, _, _, _, _, _, _, _, _, _, _, _, _, _, _, ?_, rfl⟩
    exact ⟨i, a, xv, vals, fs, ⟨hi, ha, rfl, rfl, HL.out, HSM.out, hP, HO.out⟩, HX.out⟩
set_option maxHeartbeats 4000000 in
set_option maxRecDepth 1000000 in
theorem out_go {l : List UInt8} {w : World} {x3 x4 fu : Int} {i a : Nat} {xv : Value} {vals : List Value} {fs : List (List In)} {W : World} (hs : l.length ≤ 3000) (h8 : 8 ≤ l.length) (hi : i ≤ 255) (_ha : a ≤ l.length) (hfl : fs.length = i) (hsm : ∀ f ∈ fs, f.length ≤ 255) (hP : PW w W w.heap.size (w.heap.size + 1) xv x3 x4 fu vals fs) (hO : OuterOk l i a fs) (hix : (i : Int) < byteAt l 7) (hal : a < l.length)
    (c1 c2 c3 c12 c13 c14 c15 c16 c17 c18 c19 c20 c21 c22 c23 c24 c25 c26 c27 c28 c29 c30 c31 c32 c134 c135 c136 c137 c138 c139 c140 c141 c142 c143 c144 c145 c146 c147 u7 u8 u9 u10 u11 u33 u34 u35 u36 u37 u38 u39 u40 u41 u42 u43 u44 u45 u46 u47 u48 u49 u50 u51 u52 u53 u54 u55 u56 u57 u58 u59 u60 u61 u62 u63 u64 u65 u66 u67 u68 u69 u70 u71 u72 u73 u74 u75 u76 u77 u78 u79 u80 u81 u82 u83 u84 u85 u86 u87 u88 u89 u90 u91 u92 u93 u94 u95 u96 u97 u98 u99 u100 u101 u102 u103 u104 u105 u106 u107 u108 u109 u110 u111 u112 u113 u114 u115 u116 u117 u118 u119 u120 u121 u122 u123 u124 u125 u126 u127 u128 u129 u130 u131 u132 u133 : Value) (Q0 : Exit → Act → World → Prop) :
    Code.wp Tryd.prog obody (Exit.then (fun a' w'' => WO l w x3 x4 fu c1 c2 c3 c12 c13 c14 c15 c16 c17 c18 c19 c20 c21 c22 c23 c24 c25 c26 c27 c28 c29 c30 c31 c32 c134 c135 c136 c137 c138 c139 c140 c141 c142 c143 c144 c145 c146 c147 a' w'' ∧ Omu a' w'' < Omu ⟨#[.string (strB l), c1, c2, c3, .pointer (some ⟨w.heap.size + 1, 0, none⟩), .int .i64 (a : Int), .int .i64 (i : Int), u7, u8, u9, u10, u11, c12, c13, c14, c15, c16, c17, c18, c19, c20, c21, c22, c23, c24, c25, c26, c27, c28, c29, c30, c31, c32, u33, u34, u35, u36, u37, u38, u39, u40, u41, u42, u43, u44, u45, u46, u47, u48, u49, u50, u51, u52, u53, u54, u55, u56, u57, u58, u59, u60, u61, u62, u63, u64, u65, u66, u67, u68, u69, u70, u71, u72, u73, u74, u75, u76, u77, u78, u79, u80, u81, u82, u83, u84, u85, u86, u87, u88, u89, u90, u91, u92, u93, u94, u95, u96, u97, u98, u99, u100, u101, u102, u103, u104, u105, u106, u107, u108, u109, u110, u111, u112, u113, u114, u115, u116, u117, u118, u119, u120, u121, u122, u123, u124, u125, u126, u127, u128, u129, u130, u131, u132, u133, c134, c135, c136, c137, c138, c139, c140, c141, c142, c143, c144, c145, c146, c147], []⟩ W) (QB Q0)) ⟨#[.string (strB l), c1, c2, c3, .pointer (some ⟨w.heap.size + 1, 0, none⟩), .int .i64 (a : Int), .int .i64 (i : Int), u7, u8, u9, u10, u11, c12, c13, c14, c15, c16, c17, c18, c19, c20, c21, c22, c23, c24, c25, c26, c27, c28, c29, c30, c31, c32, u33, u34, u35, u36, u37, u38, u39, u40, u41, u42, u43, u44, u45, u46, u47, u48, u49, u50, u51, u52, u53, u54, u55, u56, u57, u58, u59, u60, u61, u62, u63, u64, u65, u66, u67, u68, u69, u70, u71, u72, u73, u74, u75, u76, u77, u78, u79, u80, u81, u82, u83, u84, u85, u86, u87, u88, u89, u90, u91, u92, u93, u94, u95, u96, u97, u98, u99, u100, u101, u102, u103, u104, u105, u106, u107, u108, u109, u110, u111, u112, u113, u114, u115, u116, u117, u118, u119, u120, u121, u122, u123, u124, u125, u126, u127, u128, u129, u130, u131, u132, u133, c134, c135, c136, c137, c138, c139, c140, c141, c142, c143, c144, c145, c146, c147], []⟩ W := by
  obtain ⟨i1, ki, kz0, kz1, kz2⟩ := info_parts infoFns
  have zs : (strB l).size = l.length := strB_size l
  have i7 := fun wx => idx_at l 7 7 rfl (by omega) wx
  have b7 := byteAt_bd l 7
  obtain ⟨x7, hx7⟩ : ∃ x, byteAt l 7 = x := ⟨_, rfl⟩
  rw [hx7] at i7 b7 hix
  have X7 : Hid (byteAt l 7 = x7) := hx7
  have HL : Hid (fs.length = i) := hfl
  have HSM : Hid (∀ f ∈ fs, f.length ≤ 255) := hsm
  have HO : Hid (OuterOk l i a fs) := hO
  have hvb : vals.length ≤ 255 := by rw [hP.len, hfl]; exact hi
  clear hx7 hfl hsm hO
  have hda : decide ((a : Int) < (l.length : Int)) = true := by simp; omega
  have ia := fun wx => idx_at l a a rfl hal wx
  have ba := byteAt_bd l a
  have hI0 := outer_in HO.out (by rw [X7.out]; exact hix)
  obtain ⟨N, hN⟩ : ∃ N : Nat, byteAt l a = N := ⟨(byteAt l a).toNat, by omega⟩
  rw [hN] at ia ba hI0
  have hI1 : InnerOk l i N 0 (a + 1) [] := by simpa using hI0
  have HI : Hid (InnerOk l i N 0 (a + 1) []) := hI1
  have HP : Hid (PW w W w.heap.size (w.heap.size + 1) xv x3 x4 fu vals fs) := hP
  have hNb : N ≤ 255 := by omega
  clear hI0 hI1 hN hP
  conv => arg 2; whnf
  go_wp2_with fail
  refine qb_use (fun _ _ _ h => h) (in_loop (i := i) (N := N) (W := W) hs hNb _ _ _ _ _ _ _ _ _ _ _ _ _ _ _ _ _ _ _ _ _ _ _ _ _ _ _ _ _ _ _ _ _ _ _ _ _ _ _ _ _ _ _ _ _ _ _ _ _ _ _ _ _ _ _ _ _ _ _ _ _ _ _ _ _ _ _ _ _ _ _ _ _ _ _ _ _ _ _ _ _ _ _ _ _ _ _ _ _ _ _ _ _ _ _ _ _ _ _ _ _ _ _ _ _ _ _ _ _ _ _ _ _ _ _ _ _ _ _ _ _ _ _ _ _ _ _ _ _ _ _ _ _ _ _ _ _ _ _ _ _ _ _ _ _ _ W ⟨0, a + 1, [], by omega, by omega, rfl, by go_num, rfl, World.ownsRow_nil _ _ _ _, Below.refl _ _, HI.out⟩ _ ?_)
  intro a' wr hX
  unfold WX at hX
  obtain ⟨v5, hX⟩ := hX
  obtain ⟨v7, hX⟩ := hX
  obtain ⟨v9, hX⟩ := hX
  obtain ⟨v10, hX⟩ := hX
  obtain ⟨v11, hX⟩ := hX
  obtain ⟨v52, hX⟩ := hX
  obtain ⟨v53, hX⟩ := hX
  obtain ⟨v54, hX⟩ := hX
  obtain ⟨v55, hX⟩ := hX
  obtain ⟨v56, hX⟩ := hX
  obtain ⟨v57, hX⟩ := hX
  obtain ⟨v58, hX⟩ := hX
  obtain ⟨v59, hX⟩ := hX
  obtain ⟨v60, hX⟩ := hX
  obtain ⟨v61, hX⟩ := hX
  obtain ⟨v62, hX⟩ := hX
  obtain ⟨v63, hX⟩ := hX
  obtain ⟨v64, hX⟩ := hX
  obtain ⟨v65, hX⟩ := hX
  obtain ⟨v66, hX⟩ := hX
  obtain ⟨v67, hX⟩ := hX
  obtain ⟨v68, hX⟩ := hX
  obtain ⟨v69, hX⟩ := hX
  obtain ⟨v70, hX⟩ := hX
  obtain ⟨v71, hX⟩ := hX
  obtain ⟨v72, hX⟩ := hX
  obtain ⟨v73, hX⟩ := hX
  obtain ⟨v74, hX⟩ := hX
  obtain ⟨v75, hX⟩ := hX
  obtain ⟨v76, hX⟩ := hX
  obtain ⟨v77, hX⟩ := hX
  obtain ⟨v78, hX⟩ := hX
  obtain ⟨v79, hX⟩ := hX
  obtain ⟨v80, hX⟩ := hX
  obtain ⟨v81, hX⟩ := hX
  obtain ⟨v82, hX⟩ := hX
  obtain ⟨v83, hX⟩ := hX
  obtain ⟨v84, hX⟩ := hX
  obtain ⟨v85, hX⟩ := hX
  obtain ⟨v86, hX⟩ := hX
  obtain ⟨v87, hX⟩ := hX
  obtain ⟨v88, hX⟩ := hX
  obtain ⟨v89, hX⟩ := hX
  obtain ⟨v90, hX⟩ := hX
  obtain ⟨v91, hX⟩ := hX
  obtain ⟨v92, hX⟩ := hX
  obtain ⟨v93, hX⟩ := hX
  obtain ⟨v94, hX⟩ := hX
  obtain ⟨v95, hX⟩ := hX
  obtain ⟨v96, hX⟩ := hX
  obtain ⟨v97, hX⟩ := hX
  obtain ⟨v98, hX⟩ := hX
  obtain ⟨v99, hX⟩ := hX
  obtain ⟨v100, hX⟩ := hX
  obtain ⟨v101, hX⟩ := hX
  obtain ⟨v102, hX⟩ := hX
  obtain ⟨v103, hX⟩ := hX
  obtain ⟨v104, hX⟩ := hX
  obtain ⟨v105, hX⟩ := hX
  obtain ⟨v106, hX⟩ := hX
  obtain ⟨v107, hX⟩ := hX
  obtain ⟨v108, hX⟩ := hX
  obtain ⟨v109, hX⟩ := hX
  obtain ⟨v110, hX⟩ := hX
  obtain ⟨v111, hX⟩ := hX
  obtain ⟨v112, hX⟩ := hX
  obtain ⟨v113, hX⟩ := hX
  obtain ⟨v114, hX⟩ := hX
  obtain ⟨v115, hX⟩ := hX
  obtain ⟨v116, hX⟩ := hX
  obtain ⟨v117, hX⟩ := hX
  obtain ⟨v118, hX⟩ := hX
  obtain ⟨v119, hX⟩ := hX
  obtain ⟨v120, hX⟩ := hX
  obtain ⟨v121, hX⟩ := hX
  obtain ⟨v122, hX⟩ := hX
  obtain ⟨v123, hX⟩ := hX
  obtain ⟨v124, hX⟩ := hX
  obtain ⟨v125, hX⟩ := hX
  obtain ⟨v126, hX⟩ := hX
  obtain ⟨v127, hX⟩ := hX
  obtain ⟨hr, rfl⟩ := hX
  obtain ⟨k, b, xs, ⟨hk, hb, rfl, rfl, hxl, hown, hBl, hIn⟩, hx⟩ := hr
  have HOB : Hid (OuterOk l (i + 1) b (fs ++ [xs])) := inner_out hIn HO.out hx
  have hxb : xs.length ≤ 255 := by omega
  obtain ⟨va, vc, rfl⟩ : ∃ va vc, v7 = .slice va xs.length vc := by
    rcases hown.2 with ⟨rfl, h0⟩ | ⟨g, cap, cur, rfl, _⟩
    · exact ⟨none, 0, by rw [h0]⟩
    · exact ⟨_, cap, rfl⟩
  have hP1 := HP.out.kept hBl
  have hrow1 := hP1.row
  have hz1 := lt_of_block hP1.box
  have hzP := lt_of_block HP.out.box
  have x0 := cell_of_row wr _ 0 _ _ _ hP1.box
  simp at x0
  have x0a := fun o : Obj => still_alloc wr o _ _ x0
  have HEND : Hid (∀ (g7 cap7 : Nat) (w7 : World), w7.ownsRow (w.heap.size + 1 + 1) 42 1 (.slice (some ⟨g7, 0, none⟩) (vals.length + 1) cap7) (vals.length + 1) (vals ++ [.slice va xs.length vc]) → (wr.alloc (.cells #[.slice va xs.length vc] 42)).grownBy w7 xv.ownBlock →
      PW w (w7.setCell ⟨w.heap.size + 1, 0, none⟩ (.slice (some ⟨g7, 0, none⟩) (vals.length + 1) cap7)) w.heap.size (w.heap.size + 1) (.slice (some ⟨g7, 0, none⟩) (vals.length + 1) cap7) x3 x4 fu (vals ++ [.slice va xs.length vc]) (fs ++ [xs]) ∧ w7.heap[w.heap.size + 1]? = some (.cells #[xv, .int .i64 x3, .int .i64 x4, .int .i64 fu] 24 (0, 0))) := fun g7 cap7 w7 ho hg =>
    ⟨HP.out.push (below_alloc hBl _) (B := W.heap.size) hzP (hown.alloc _) hg ho, (hg.block _ (by simp; omega) (fun e => by have := hrow1.lt _ e.symm; omega)).trans ((Below.heap_alloc _ _ _ hz1).trans hP1.box)⟩
  have HLE : Hid (∀ f ∈ fs ++ [xs], f.length ≤ 255) := fun f hf => by
    simp at hf
    rcases hf with hf | rfl
    · exact HSM.out f hf
    · exact hxb
  clear hown hBl hIn hxl hP1 hx HO HI HP
  simp only [QB, Exit.inBlock, Exit.then, ↓reduceIte]
  go_wp2_with (at_builtin; refine wpList_append_lies _ rfl (.tmp 129) (.tmp 131) 22 rfl (w.heap.size + 1 + 1) 42 i1 (.slice none 0 0) 1 24 Tryd.underlying22 ki kz0 kz1 kz2 rfl (by decide) xv vals.length vals rfl (hrow1.alloc _) ⟨wr.heap.size, 0, none⟩ 1 1 [.slice va xs.length vc] ?c0 rfl (one_new _ _ _) ?c1 (by omega) ?c2 ?c3 ?c4 _ rfl ?_)
  case c0 => simp [Act.eval]
  case c1 => intro u hu; simp at hu; subst hu; rfl
  case c2 => unfold maxLen; omega
  case c3 => omega
  case c4 => simp; omega
  intro g7 cap7 w7 hown7 hgrow7 hat7 hlt7
  obtain ⟨hPn, b7'⟩ := HEND.out g7 cap7 w7 hown7 hgrow7
  have c7' := cell_of_row w7 _ 0 _ _ _ b7'
  simp at c7'
  have f7 := frozen_of_row w7 _ 0 _ _ b7'
  clear hown7 hgrow7 hat7 hlt7 b7' hrow1 x0 x0a HEND
  go_wp2_with fail
  refine ⟨?_, by simp [Omu, intOf]; omega⟩
  unfold WO
  refine ⟨_, _, _, _, _, _, _, _, _, _, _, _, _, _, _, _, _, _, _, _, _, _, _, _, _, _, _, _, _, _, _, _, _, _, _, _, _, _, _, _, _, _, _, _, _, _, _, _, _, _, _, _, _, _, _, _, _, _, _, _, _, _, _, _, _, _, _, _, _, _, _, _, _, _, _, _, _, _, _, _, _, _, _, _, _, _, _, _, _, _, _, _, _, _, _, _, _, _, _, _, _, _, _, _, _, _, _, _, ?_, rfl⟩
  exact ⟨i + 1, b, _, _, fs ++ [xs], by omega, by omega, by go_num, rfl, by simp [HL.out], HLE.out, hPn, HOB.out⟩
set_option maxHeartbeats 4000000 in
set_option maxRecDepth 1000000 in
theorem out_round {l : List UInt8} {w : World} {x3 x4 fu : Int} (hs : l.length ≤ 3000) (h8 : 8 ≤ l.length) (c1 c2 c3 c12 c13 c14 c15 c16 c17 c18 c19 c20 c21 c22 c23 c24 c25 c26 c27 c28 c29 c30 c31 c32 c134 c135 c136 c137 c138 c139 c140 c141 c142 c143 c144 c145 c146 c147 : Value) (Q0 : Exit → Act → World → Prop) (hexit : ∀ a' w'', OX l w x3 x4 fu c1 c2 c3 c12 c13 c14 c15 c16 c17 c18 c19 c20 c21 c22 c23 c24 c25 c26 c27 c28 c29 c30 c31 c32 c134 c135 c136 c137 c138 c139 c140 c141 c142 c143 c144 c145 c146 c147 a' w'' → QB Q0 (.exit 0) a' w'') (act : Act) (W : World) (hI : WO l w x3 x4 fu c1 c2 c3 c12 c13 c14 c15 c16 c17 c18 c19 c20 c21 c22 c23 c24 c25 c26 c27 c28 c29 c30 c31 c32 c134 c135 c136 c137 c138 c139 c140 c141 c142 c143 c144 c145 c146 c147 act W) :
    Code.wp Tryd.prog obody (Exit.then (fun a' w'' => WO l w x3 x4 fu c1 c2 c3 c12 c13 c14 c15 c16 c17 c18 c19 c20 c21 c22 c23 c24 c25 c26 c27 c28 c29 c30 c31 c32 c134 c135 c136 c137 c138 c139 c140 c141 c142 c143 c144 c145 c146 c147 a' w'' ∧ Omu a' w'' < Omu act W) (QB Q0)) act W := by
  unfold WO at hI
  obtain ⟨u5, hI⟩ := hI
  obtain ⟨u6, hI⟩ := hI
  obtain ⟨u7, hI⟩ := hI
  obtain ⟨u8, hI⟩ := hI
  obtain ⟨u9, hI⟩ := hI
  obtain ⟨u10, hI⟩ := hI
  obtain ⟨u11, hI⟩ := hI
  obtain ⟨u33, hI⟩ := hI
  obtain ⟨u34, hI⟩ := hI
  obtain ⟨u35, hI⟩ := hI
  obtain ⟨u36, hI⟩ := hI
  obtain ⟨u37, hI⟩ := hI
  obtain ⟨u38, hI⟩ := hI
  obtain ⟨u39, hI⟩ := hI
  obtain ⟨u40, hI⟩ := hI
  obtain ⟨u41, hI⟩ := hI
  obtain ⟨u42, hI⟩ := hI
  obtain ⟨u43, hI⟩ := hI
  obtain ⟨u44, hI⟩ := hI
  obtain ⟨u45, hI⟩ := hI
  obtain ⟨u46, hI⟩ := hI
  obtain ⟨u47, hI⟩ := hI
  obtain ⟨u48, hI⟩ := hI
  obtain ⟨u49, hI⟩ := hI
  obtain ⟨u50, hI⟩ := hI
  obtain ⟨u51, hI⟩ := hI
  obtain ⟨u52, hI⟩ := hI
  obtain ⟨u53, hI⟩ := hI
  obtain ⟨u54, hI⟩ := hI
  obtain ⟨u55, hI⟩ := hI
  obtain ⟨u56, hI⟩ := hI
  obtain ⟨u57, hI⟩ := hI
  obtain ⟨u58, hI⟩ := hI
  obtain ⟨u59, hI⟩ := hI
  obtain ⟨u60, hI⟩ := hI
  obtain ⟨u61, hI⟩ := hI
  obtain ⟨u62, hI⟩ := hI
  obtain ⟨u63, hI⟩ := hI
  obtain ⟨u64, hI⟩ := hI
  obtain ⟨u65, hI⟩ := hI
  obtain ⟨u66, hI⟩ := hI
  obtain ⟨u67, hI⟩ := hI
  obtain ⟨u68, hI⟩ := hI
  obtain ⟨u69, hI⟩ := hI
  obtain ⟨u70, hI⟩ := hI
  obtain ⟨u71, hI⟩ := hI
  obtain ⟨u72, hI⟩ := hI
  obtain ⟨u73, hI⟩ := hI
  obtain ⟨u74, hI⟩ := hI
  obtain ⟨u75, hI⟩ := hI
  obtain ⟨u76, hI⟩ := hI
  obtain ⟨u77, hI⟩ := hI
  obtain ⟨u78, hI⟩ := hI
  obtain ⟨u79, hI⟩ := hI
  obtain ⟨u80, hI⟩ := hI
  obtain ⟨u81, hI⟩ := hI
  obtain ⟨u82, hI⟩ := hI
  obtain ⟨u83, hI⟩ := hI
  obtain ⟨u84, hI⟩ := hI
  obtain ⟨u85, hI⟩ := hI
  obtain ⟨u86, hI⟩ := hI
  obtain ⟨u87, hI⟩ := hI
  obtain ⟨u88, hI⟩ := hI
  obtain ⟨u89, hI⟩ := hI
  obtain ⟨u90, hI⟩ := hI
  obtain ⟨u91, hI⟩ := hI
  obtain ⟨u92, hI⟩ := hI
  obtain ⟨u93, hI⟩ := hI
  obtain ⟨u94, hI⟩ := hI
  obtain ⟨u95, hI⟩ := hI
  obtain ⟨u96, hI⟩ := hI
  obtain ⟨u97, hI⟩ := hI
  obtain ⟨u98, hI⟩ := hI
  obtain ⟨u99, hI⟩ := hI
  obtain ⟨u100, hI⟩ := hI
  obtain ⟨u101, hI⟩ := hI
  obtain ⟨u102, hI⟩ := hI
  obtain ⟨u103, hI⟩ := hI
  obtain ⟨u104, hI⟩ := hI
  obtain ⟨u105, hI⟩ := hI
  obtain ⟨u106, hI⟩ := hI
  obtain ⟨u107, hI⟩ := hI
  obtain ⟨u108, hI⟩ := hI
  obtain ⟨u109, hI⟩ := hI
  obtain ⟨u110, hI⟩ := hI
  obtain ⟨u111, hI⟩ := hI
  obtain ⟨u112, hI⟩ := hI
  obtain ⟨u113, hI⟩ := hI
  obtain ⟨u114, hI⟩ := hI
  obtain ⟨u115, hI⟩ := hI
  obtain ⟨u116, hI⟩ := hI
  obtain ⟨u117, hI⟩ := hI
  obtain ⟨u118, hI⟩ := hI
  obtain ⟨u119, hI⟩ := hI
  obtain ⟨u120, hI⟩ := hI
  obtain ⟨u121, hI⟩ := hI
  obtain ⟨u122, hI⟩ := hI
  obtain ⟨u123, hI⟩ := hI
  obtain ⟨u124, hI⟩ := hI
  obtain ⟨u125, hI⟩ := hI
  obtain ⟨u126, hI⟩ := hI
  obtain ⟨u127, hI⟩ := hI
  obtain ⟨u128, hI⟩ := hI
  obtain ⟨u129, hI⟩ := hI
  obtain ⟨u130, hI⟩ := hI
  obtain ⟨u131, hI⟩ := hI
  obtain ⟨u132, hI⟩ := hI
  obtain ⟨u133, hI⟩ := hI
  obtain ⟨hr, rfl⟩ := hI
  obtain ⟨i, a, xv, vals, fs, hi, ha, rfl, rfl, hfl, hsm, hP, hO⟩ := hr
  by_cases hx : (i : Int) < byteAt l 7 ∧ a < l.length
  · exact out_go hs h8 hi ha hfl hsm hP hO hx.1 hx.2 c1 c2 c3 c12 c13 c14 c15 c16 c17 c18 c19 c20 c21 c22 c23 c24 c25 c26 c27 c28 c29 c30 c31 c32 c134 c135 c136 c137 c138 c139 c140 c141 c142 c143 c144 c145 c146 c147 u7 u8 u9 u10 u11 u33 u34 u35 u36 u37 u38 u39 u40 u41 u42 u43 u44 u45 u46 u47 u48 u49 u50 u51 u52 u53 u54 u55 u56 u57 u58 u59 u60 u61 u62 u63 u64 u65 u66 u67 u68 u69 u70 u71 u72 u73 u74 u75 u76 u77 u78 u79 u80 u81 u82 u83 u84 u85 u86 u87 u88 u89 u90 u91 u92 u93 u94 u95 u96 u97 u98 u99 u100 u101 u102 u103 u104 u105 u106 u107 u108 u109 u110 u111 u112 u113 u114 u115 u116 u117 u118 u119 u120 u121 u122 u123 u124 u125 u126 u127 u128 u129 u130 u131 u132 u133 Q0
  · exact out_exit hs h8 hi ha hfl hsm hP hO hx c1 c2 c3 c12 c13 c14 c15 c16 c17 c18 c19 c20 c21 c22 c23 c24 c25 c26 c27 c28 c29 c30 c31 c32 c134 c135 c136 c137 c138 c139 c140 c141 c142 c143 c144 c145 c146 c147 u7 u8 u9 u10 u11 u33 u34 u35 u36 u37 u38 u39 u40 u41 u42 u43 u44 u45 u46 u47 u48 u49 u50 u51 u52 u53 u54 u55 u56 u57 u58 u59 u60 u61 u62 u63 u64 u65 u66 u67 u68 u69 u70 u71 u72 u73 u74 u75 u76 u77 u78 u79 u80 u81 u82 u83 u84 u85 u86 u87 u88 u89 u90 u91 u92 u93 u94 u95 u96 u97 u98 u99 u100 u101 u102 u103 u104 u105 u106 u107 u108 u109 u110 u111 u112 u113 u114 u115 u116 u117 u118 u119 u120 u121 u122 u123 u124 u125 u126 u127 u128 u129 u130 u131 u132 u133 Q0 hexit
set_option maxHeartbeats 4000000 in
set_option maxRecDepth 1000000 in
theorem out_loop {l : List UInt8} {w : World} {x3 x4 fu : Int} (hs : l.length ≤ 3000) (h8 : 8 ≤ l.length) (c1 c2 c3 c12 c13 c14 c15 c16 c17 c18 c19 c20 c21 c22 c23 c24 c25 c26 c27 c28 c29 c30 c31 c32 c134 c135 c136 c137 c138 c139 c140 c141 c142 c143 c144 c145 c146 c147 u5 u6 u7 u8 u9 u10 u11 u33 u34 u35 u36 u37 u38 u39 u40 u41 u42 u43 u44 u45 u46 u47 u48 u49 u50 u51 u52 u53 u54 u55 u56 u57 u58 u59 u60 u61 u62 u63 u64 u65 u66 u67 u68 u69 u70 u71 u72 u73 u74 u75 u76 u77 u78 u79 u80 u81 u82 u83 u84 u85 u86 u87 u88 u89 u90 u91 u92 u93 u94 u95 u96 u97 u98 u99 u100 u101 u102 u103 u104 u105 u106 u107 u108 u109 u110 u111 u112 u113 u114 u115 u116 u117 u118 u119 u120 u121 u122 u123 u124 u125 u126 u127 u128 u129 u130 u131 u132 u133 : Value) (wr : World) (hrel : ORel l w x3 x4 fu u5 u6 wr) (Q0 : Exit → Act → World → Prop) (hexit : ∀ a' w'', OX l w x3 x4 fu c1 c2 c3 c12 c13 c14 c15 c16 c17 c18 c19 c20 c21 c22 c23 c24 c25 c26 c27 c28 c29 c30 c31 c32 c134 c135 c136 c137 c138 c139 c140 c141 c142 c143 c144 c145 c146 c147 a' w'' → QB Q0 (.exit 0) a' w'') :
    Code.wp Tryd.prog (Code.loop obody) (QB Q0) ⟨#[.string (strB l), c1, c2, c3, .pointer (some ⟨w.heap.size + 1, 0, none⟩), u5, u6, u7, u8, u9, u10, u11, c12, c13, c14, c15, c16, c17, c18, c19, c20, c21, c22, c23, c24, c25, c26, c27, c28, c29, c30, c31, c32, u33, u34, u35, u36, u37, u38, u39, u40, u41, u42, u43, u44, u45, u46, u47, u48, u49, u50, u51, u52, u53, u54, u55, u56, u57, u58, u59, u60, u61, u62, u63, u64, u65, u66, u67, u68, u69, u70, u71, u72, u73, u74, u75, u76, u77, u78, u79, u80, u81, u82, u83, u84, u85, u86, u87, u88, u89, u90, u91, u92, u93, u94, u95, u96, u97, u98, u99, u100, u101, u102, u103, u104, u105, u106, u107, u108, u109, u110, u111, u112, u113, u114, u115, u116, u117, u118, u119, u120, u121, u122, u123, u124, u125, u126, u127, u128, u129, u130, u131, u132, u133, c134, c135, c136, c137, c138, c139, c140, c141, c142, c143, c144, c145, c146, c147], []⟩ wr := by
  refine wp_loop (WO l w x3 x4 fu c1 c2 c3 c12 c13 c14 c15 c16 c17 c18 c19 c20 c21 c22 c23 c24 c25 c26 c27 c28 c29 c30 c31 c32 c134 c135 c136 c137 c138 c139 c140 c141 c142 c143 c144 c145 c146 c147) Omu ?_ (fun a w'' hI => out_round hs h8 c1 c2 c3 c12 c13 c14 c15 c16 c17 c18 c19 c20 c21 c22 c23 c24 c25 c26 c27 c28 c29 c30 c31 c32 c134 c135 c136 c137 c138 c139 c140 c141 c142 c143 c144 c145 c146 c147 Q0 hexit a w'' hI)
  unfold WO
  exact ⟨u5, u6, u7, u8, u9, u10, u11, u33, u34, u35, u36, u37, u38, u39, u40, u41, u42, u43, u44, u45, u46, u47, u48, u49, u50, u51, u52, u53, u54, u55, u56, u57, u58, u59, u60, u61, u62, u63, u64, u65, u66, u67, u68, u69, u70, u71, u72, u73, u74, u75, u76, u77, u78, u79, u80, u81, u82, u83, u84, u85, u86, u87, u88, u89, u90, u91, u92, u93, u94, u95, u96, u97, u98, u99, u100, u101, u102, u103, u104, u105, u106, u107, u108, u109, u110, u111, u112, u113, u114, u115, u116, u117, u118, u119, u120, u121, u122, u123, u124, u125, u126, u127, u128, u129, u130, u131, u132, u133, hrel, rfl⟩
end Go.Proofs.YtjaiicjnabpapaaDoor
