/-
  The reference's Get, cut: the inner loop's body, and what holds at its head.
-/
import Derived.Test.YtjaiicjnabpapaaDoorRef4
import Derived.Test.YtjaiicjnabpapaaDoorRefBack
import Derived.Test.YtjaiicjnabpapaaDoorTurned
import Derived.Test.YtjaiicjnabpapaaDoorCopy2
import Derived.Laws.BitsAllLaws
import Derived.Deep.AppendLies
import Derived.BigQuiet
namespace Go.Proofs.YtjaiicjnabpapaaDoor
open Go.RowKit

theorem idx_at (l : List UInt8) (q : Nat) (z : Int) (hz : z = q) (h : q < l.length) (wx : World) : (Instr.index 9 (.string (strB l)) (.int .i64 z)).run Tryd.prog wx = .ok (.int .u8 (byteAt l q)) wx := by
  have h0 : q < (strB l).size := by rw [strB_size]; exact h
  have e := byteAt_in h0
  rw [strB_data] at e
  rw [e, hz]
  have h1 : (0 : Int) ≤ (q : Int) := by omega
  have h2 : (q : Int) < ((strB l).size : Int) := by omega
  go_simp
theorem or64 (m b k : Nat) (hm : ∃ a, m = 2 ^ k * a) (hk : k ≤ 24) (hb : b < 2 ^ k) (ha : m < 4294967296) : bits .or .i64 (m : Int) (b : Int) = ((m + b : Nat) : Int) := by
  have hb2 : b < 16777216 := Nat.lt_of_lt_of_le hb (Nat.pow_le_pow_right (n := 2) (by omega) hk)
  have h1 : (BitVec.ofInt 64 (m : Int)).toNat = m := by rw [BitVec.toNat_ofInt]; omega
  have h2 : (BitVec.ofInt 64 (b : Int)).toNat = b := by rw [BitVec.toNat_ofInt]; omega
  show IntKind.i64.wrap ((BitVec.ofInt 64 (m : Int) ||| BitVec.ofInt 64 (b : Int)).toNat : Nat) = _
  have h3 : m ||| b = m + b := by
    obtain ⟨a, rfl⟩ := hm
    rw [← Nat.two_pow_add_eq_or_of_lt hb]
  rw [BitVec.toNat_or, h1, h2, h3]
  simp [IntKind.wrap, IntKind.bits, IntKind.signed]
  omega
theorem or64i (x y : Int) (k M : Nat) (hM : M = 2 ^ k) (hk : k ≤ 24) (hx0 : 0 ≤ x) (hx : x < 4294967296) (hd : x % (M : Int) = 0) (hy0 : 0 ≤ y) (hy : y < (M : Int)) : bits .or .i64 x y = x + y := by
  subst hM
  obtain ⟨m, rfl⟩ : ∃ m : Nat, x = m := ⟨x.toNat, by omega⟩
  obtain ⟨b, rfl⟩ : ∃ b : Nat, y = b := ⟨y.toNat, by omega⟩
  rw [or64 m b k ?_ hk (by omega) (by omega)]
  · omega
  · refine ⟨m / 2 ^ k, ?_⟩
    have hd' : m % 2 ^ k = 0 := by exact_mod_cast hd
    have := Nat.div_add_mod m (2 ^ k)
    omega
theorem wrap_small (x : Int) (h0 : -9000000000 ≤ x) (h1 : x ≤ 9000000000) : IntKind.i64.wrap x = x := by
  simp [IntKind.wrap, IntKind.bits, IntKind.signed]
  omega
theorem get_same {l : List UInt8} {i a : Nat} {fs : List (List In)} {x3 x4 x5 x6 fu : Int} (ho : OuterOk l i a fs) (hx : ¬ ((i : Int) < byteAt l 7 ∧ a < l.length)) (e3 : byteAt l 3 = x3) (e4 : byteAt l 4 = x4) (e5 : byteAt l 5 = x5) (e6 : byteAt l 6 = x6) (hfu : fu = x5 * 256 + x6) :
    ∀ P, Good P → l = putB P → (⟨fs, x3, x4, fu⟩ : Pr) = P := by
  intro P hP hl
  have h1 := outer_out ho hx P hP hl
  obtain ⟨q1, q2, q3, -⟩ := head_bytes hP
  rw [← hl] at q1 q2 q3
  obtain ⟨fs', futs, depth, fuel⟩ := P
  simp only at h1 q1 q2 q3
  rw [h1, ← e3, ← e4, q1, q2, hfu, ← e5, ← e6, q3]
theorem short_in {l : List UInt8} {i n k a m : Nat} {xs ys : List In} (h : InnerOk l i n k a xs) (hk : k < n) (ho : byteAt l a = 1) (hno : ¬ a + 6 ≤ l.length) : InnerOk l i n (k + 1) m ys :=
  fun P hP hl => absurd ((inner_const h hk ho).2 P hP hl) hno
theorem below_grow {B : Nat} {a b c : World} {row : Option Nat} (h : Below B a b) (hB : B ≤ b.heap.size) (hg : b.grownBy c row) (hrow : ∀ k, row = some k → B ≤ k) : Below B a c :=
  h.trans ⟨hg.os, hg.tape, hg.output, hg.size, fun k hk => hg.block k (by omega) fun e => by have := hrow k e.symm; omega⟩
theorem insC_new2 (w : World) (x : In) (t u : TypeId) (cs : Array Value) : ∀ j v, (insC x)[j]? = some v → (((w.alloc (.cells cs u)).alloc (.cells #[.int .i64 x.o, .int .i64 x.a, .int .i64 x.b, .int .i64 x.c] t))).cell? ((⟨w.heap.size + 1, 0, none⟩ : Addr).add j) = some v := fun j v hj => by
  have := insC_new (w.alloc (.cells cs u)) x t j v hj
  rw [show (w.alloc (.cells cs u)).heap.size = w.heap.size + 1 by simp] at this
  exact this
theorem set2_size (wr : World) (cs : Array Value) (t : TypeId) (n : Nat) (v1 v2 : Value) : ((((wr.alloc (.cells cs t)).drewN n).setCell ⟨wr.heap.size, 2, none⟩ v1).setCell ⟨wr.heap.size, 3, none⟩ v2).heap.size = wr.heap.size + 1 := by
  simp [World.setCell]
theorem set2_own {wr : World} {B m : Nat} {e : TypeId} {size : Nat} {v : Value} {xs : List Value} (h : wr.ownsRow B e size v m xs) (cs : Array Value) (t : TypeId) (n : Nat) (v1 v2 : Value) : ((((wr.alloc (.cells cs t)).drewN n).setCell ⟨wr.heap.size, 2, none⟩ v1).setCell ⟨wr.heap.size, 3, none⟩ v2).ownsRow B e size v m xs :=
  owns_same h fun g hg => by
    have hlt := (h.lt g hg).2
    rw [Below.heap_setCell _ _ _ _ (by simp; omega), Below.heap_setCell _ _ _ _ (by simp; omega)]
    exact Below.heap_alloc _ _ _ hlt
theorem set2_below {W wr : World} (h : Below W.heap.size W wr) (cs : Array Value) (t : TypeId) (n : Nat) (v1 v2 : Value) : Below W.heap.size W ((((wr.alloc (.cells cs t)).drewN n).setCell ⟨wr.heap.size, 2, none⟩ v1).setCell ⟨wr.heap.size, 3, none⟩ v2) := by
  have h1 := h.alloc h.size (.cells cs t)
  have h2 : Below W.heap.size W ((wr.alloc (.cells cs t)).drewN n) := ⟨h1.os, h1.tape, h1.output, h1.size, h1.block⟩
  exact (h2.setCell (p := ⟨wr.heap.size, 2, none⟩) h.size v1).setCell (p := ⟨wr.heap.size, 3, none⟩) h.size v2
theorem set2_new (wr : World) (cs : Array Value) (t u : TypeId) (n : Nat) (v1 v2 : Value) (x : In) : ∀ j v, (insC x)[j]? = some v → (((((wr.alloc (.cells cs t)).drewN n).setCell ⟨wr.heap.size, 2, none⟩ v1).setCell ⟨wr.heap.size, 3, none⟩ v2).alloc (.cells #[.int .i64 x.o, .int .i64 x.a, .int .i64 x.b, .int .i64 x.c] u)).cell? ((⟨wr.heap.size + 1, 0, none⟩ : Addr).add j) = some v := fun j v hj => by
  have := insC_new ((((wr.alloc (.cells cs t)).drewN n).setCell ⟨wr.heap.size, 2, none⟩ v1).setCell ⟨wr.heap.size, 3, none⟩ v2) x u j v hj
  rw [set2_size] at this
  exact this
def firstLoop : Code → Option Code
  | .loop c => some c
  | .seq a b => match firstLoop a with
    | some c => some c
    | none => firstLoop b
  | .block _ c => firstLoop c
  | .scope c => firstLoop c
  | .cond _ a b => match firstLoop a with
    | some c => some c
    | none => firstLoop b
  | _ => none
noncomputable def obody : Code := ((Tryd.f15.body.bind firstLoop).getD .skip)
noncomputable def ibody : Code := ((firstLoop obody).getD .skip)
def IAt (l : List UInt8) (i N : Nat) (W : World) (k b : Nat) (xs : List In) (av fv kv : Value) (wr : World) : Prop :=
  k ≤ N ∧ b ≤ l.length ∧ kv = .int .i64 k ∧ av = .int .i64 b ∧ xs.length = k ∧ wr.ownsRow W.heap.size 26 4 fv xs.length (cellsI xs) ∧ Below W.heap.size W wr ∧ InnerOk l i N k b xs
def IRel (l : List UInt8) (i N : Nat) (W : World) (av fv kv : Value) (wr : World) : Prop := ∃ (k b : Nat) (xs : List In), IAt l i N W k b xs av fv kv wr
def XRel (l : List UInt8) (i N : Nat) (W : World) (av fv kv : Value) (wr : World) : Prop := ∃ (k b : Nat) (xs : List In), IAt l i N W k b xs av fv kv wr ∧ ¬ (k < N ∧ b + 4 ≤ l.length)
set_option maxRecDepth 1000000 in
def WI (l : List UInt8) (i N : Nat) (W : World) (c1 c2 c3 c4 c6 c12 c13 c14 c15 c16 c17 c18 c19 c20 c21 c22 c23 c24 c25 c26 c27 c28 c29 c30 c31 c32 c33 c34 c35 c36 c37 c38 c39 c40 c41 c42 c43 c44 c45 c46 c47 c48 c49 c50 c51 c128 c129 c130 c131 c132 c133 c134 c135 c136 c137 c138 c139 c140 c141 c142 c143 c144 c145 c146 c147 : Value) (a : Act) (w' : World) : Prop := ∃ u5 u7 u9 u10 u11 u52 u53 u54 u55 u56 u57 u58 u59 u60 u61 u62 u63 u64 u65 u66 u67 u68 u69 u70 u71 u72 u73 u74 u75 u76 u77 u78 u79 u80 u81 u82 u83 u84 u85 u86 u87 u88 u89 u90 u91 u92 u93 u94 u95 u96 u97 u98 u99 u100 u101 u102 u103 u104 u105 u106 u107 u108 u109 u110 u111 u112 u113 u114 u115 u116 u117 u118 u119 u120 u121 u122 u123 u124 u125 u126 u127 : Value, IRel l i N W u5 u7 u9 w' ∧ a = ⟨#[.string (strB l), c1, c2, c3, c4, u5, c6, u7, .int .i64 (N : Int), u9, u10, u11, c12, c13, c14, c15, c16, c17, c18, c19, c20, c21, c22, c23, c24, c25, c26, c27, c28, c29, c30, c31, c32, c33, c34, c35, c36, c37, c38, c39, c40, c41, c42, c43, c44, c45, c46, c47, c48, c49, c50, c51, u52, u53, u54, u55, u56, u57, u58, u59, u60, u61, u62, u63, u64, u65, u66, u67, u68, u69, u70, u71, u72, u73, u74, u75, u76, u77, u78, u79, u80, u81, u82, u83, u84, u85, u86, u87, u88, u89, u90, u91, u92, u93, u94, u95, u96, u97, u98, u99, u100, u101, u102, u103, u104, u105, u106, u107, u108, u109, u110, u111, u112, u113, u114, u115, u116, u117, u118, u119, u120, u121, u122, u123, u124, u125, u126, u127, c128, c129, c130, c131, c132, c133, c134, c135, c136, c137, c138, c139, c140, c141, c142, c143, c144, c145, c146, c147], []⟩
set_option maxRecDepth 1000000 in
def WX (l : List UInt8) (i N : Nat) (W : World) (c1 c2 c3 c4 c6 c12 c13 c14 c15 c16 c17 c18 c19 c20 c21 c22 c23 c24 c25 c26 c27 c28 c29 c30 c31 c32 c33 c34 c35 c36 c37 c38 c39 c40 c41 c42 c43 c44 c45 c46 c47 c48 c49 c50 c51 c128 c129 c130 c131 c132 c133 c134 c135 c136 c137 c138 c139 c140 c141 c142 c143 c144 c145 c146 c147 : Value) (a : Act) (w' : World) : Prop := ∃ u5 u7 u9 u10 u11 u52 u53 u54 u55 u56 u57 u58 u59 u60 u61 u62 u63 u64 u65 u66 u67 u68 u69 u70 u71 u72 u73 u74 u75 u76 u77 u78 u79 u80 u81 u82 u83 u84 u85 u86 u87 u88 u89 u90 u91 u92 u93 u94 u95 u96 u97 u98 u99 u100 u101 u102 u103 u104 u105 u106 u107 u108 u109 u110 u111 u112 u113 u114 u115 u116 u117 u118 u119 u120 u121 u122 u123 u124 u125 u126 u127 : Value, XRel l i N W u5 u7 u9 w' ∧ a = ⟨#[.string (strB l), c1, c2, c3, c4, u5, c6, u7, .int .i64 (N : Int), u9, u10, u11, c12, c13, c14, c15, c16, c17, c18, c19, c20, c21, c22, c23, c24, c25, c26, c27, c28, c29, c30, c31, c32, c33, c34, c35, c36, c37, c38, c39, c40, c41, c42, c43, c44, c45, c46, c47, c48, c49, c50, c51, u52, u53, u54, u55, u56, u57, u58, u59, u60, u61, u62, u63, u64, u65, u66, u67, u68, u69, u70, u71, u72, u73, u74, u75, u76, u77, u78, u79, u80, u81, u82, u83, u84, u85, u86, u87, u88, u89, u90, u91, u92, u93, u94, u95, u96, u97, u98, u99, u100, u101, u102, u103, u104, u105, u106, u107, u108, u109, u110, u111, u112, u113, u114, u115, u116, u117, u118, u119, u120, u121, u122, u123, u124, u125, u126, u127, c128, c129, c130, c131, c132, c133, c134, c135, c136, c137, c138, c139, c140, c141, c142, c143, c144, c145, c146, c147], []⟩
def QB (Q : Exit → Act → World → Prop) : Exit → Act → World → Prop
  | .panic c, a, w => Q (.panic c) ⟨#[], a.defers⟩ w
  | e, a, w => Q e a w
theorem qb_use {P : Program} {c : Code} {a : Act} {w : World} {Q : Exit → Act → World → Prop} (hb : ∀ ch a w, Q (.panic ch) ⟨#[], a.defers⟩ w → Q (.panic ch) a w) (h : Code.wp P c (QB Q) a w) : Code.wp P c Q a w :=
  Code.wp_mono (fun e a w hx => by
    cases e with
    | panic ch => exact hb ch a w hx
    | _ => exact hx) h
def Wmu (N : Nat) (a : Act) (_ : World) : Nat := N - (intOf (a.tmps.getD 9 undef)).toNat
end Go.Proofs.YtjaiicjnabpapaaDoor
