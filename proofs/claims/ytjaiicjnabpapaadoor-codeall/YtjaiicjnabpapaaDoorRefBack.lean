/-
  The reference: what its reading comes to where the bytes are a program's.
-/
import Derived.Test.YtjaiicjnabpapaaDoorRef3
namespace Go.Proofs.YtjaiicjnabpapaaDoor
open Go.RowKit

theorem At.len {s : List UInt8} {p : Nat} {l : List UInt8} (h : At s p l) : p + l.length ≤ s.length := by
  obtain ⟨a, b, rfl, rfl⟩ := h
  simp
theorem At.one {s : List UInt8} {p : Nat} {v : Int} (h : At s p (be 1 v)) : byteAt s p = v % 256 := by
  have := h.byte 0 (by simp [be_length])
  simp only [be1, List.getElem_cons_zero, Nat.add_zero] at this
  rw [this, byteN_nat]
  simp
theorem At.two {s : List UInt8} {p : Nat} {v : Int} (h : At s p (be 2 v)) : byteAt s p = v / 256 % 256 ∧ byteAt s (p + 1) = v % 256 := by
  have h0 := h.byte 0 (by simp [be_length])
  have h1 := h.byte 1 (by simp [be_length])
  simp only [be2, List.getElem_cons_zero, List.getElem_cons_succ, Nat.add_zero] at h0 h1
  rw [h0, h1, byteN_nat, byteN_nat]
  exact ⟨rfl, by simp⟩
theorem At.four {s : List UInt8} {p : Nat} {v : Int} (h : At s p (be 4 v)) : byteAt s p = v / 16777216 % 256 ∧ byteAt s (p + 1) = v / 65536 % 256 ∧ byteAt s (p + 2) = v / 256 % 256 ∧ byteAt s (p + 3) = v % 256 := by
  have h0 := h.byte 0 (by simp [be_length])
  have h1 := h.byte 1 (by simp [be_length])
  have h2 := h.byte 2 (by simp [be_length])
  have h3 := h.byte 3 (by simp [be_length])
  simp only [be4, List.getElem_cons_zero, List.getElem_cons_succ, Nat.add_zero] at h0 h1 h2 h3
  rw [h0, h1, h2, h3, byteN_nat, byteN_nat, byteN_nat, byteN_nat]
  exact ⟨rfl, rfl, rfl, by simp⟩
theorem at_funs (p : Pr) : At (putB p) 8 (funsB p.fs) := ⟨headB p, [], by simp [putB], by simp [headB, be_length]⟩
theorem at_head (p : Pr) : At (putB p) 3 (be 1 p.futs ++ (be 1 p.depth ++ (be 2 p.fuel ++ be 1 p.fs.length))) := ⟨[77, 71, 80], funsB p.fs, by simp [putB, headB], rfl⟩
theorem at_fun (p : Pr) {i : Nat} (h : i < p.fs.length) : At (putB p) (8 + (funsB (p.fs.take i)).length) (funB p.fs[i]) := by
  have h1 := at_funs p
  rw [funsB_split h] at h1
  exact h1.right.left
theorem at_ins (p : Pr) {i k : Nat} (h : i < p.fs.length) (hk : k < p.fs[i].length) : At (putB p) (8 + (funsB (p.fs.take i)).length + 1 + (codeB (p.fs[i].take k)).length) (insBI p.fs[i][k]) := by
  have h1 := at_fun p h
  rw [funB] at h1
  have h2 := h1.right
  simp only [be_length] at h2
  rw [codeB_split hk] at h2
  exact h2.right.left
theorem head_bytes {p : Pr} (hp : Good p) : byteAt (putB p) 3 = p.futs ∧ byteAt (putB p) 4 = p.depth ∧ byteAt (putB p) 5 * 256 + byteAt (putB p) 6 = p.fuel ∧ byteAt (putB p) 7 = p.fs.length := by
  have h := at_head p
  have f1 := h.left.one
  have h2 := h.right
  simp only [be_length] at h2
  have f2 := h2.left.one
  have h3 := h2.right
  simp only [be_length] at h3
  have f3 := h3.left.two
  have h4 := h3.right
  simp only [be_length] at h4
  have f4 := h4.one
  have := hp.futs
  have := hp.depth
  have := hp.fuel
  have := hp.few
  have g2 : byteAt (putB p) 4 = p.depth % 256 := f2
  have g3 : byteAt (putB p) 5 = p.fuel / 256 % 256 ∧ byteAt (putB p) 6 = p.fuel % 256 := f3
  have g4 : byteAt (putB p) 7 = (p.fs.length : Int) % 256 := f4
  clear f2 f3 f4 h h2 h3 h4
  omega
def OuterOk (l : List UInt8) (i a : Nat) (fs : List (List In)) : Prop := ∀ P, Good P → l = putB P → i ≤ P.fs.length ∧ fs = P.fs.take i ∧ a = 8 + (funsB (P.fs.take i)).length
def InnerOk (l : List UInt8) (i n k a : Nat) (xs : List In) : Prop := ∀ P, Good P → l = putB P → ∃ h : i < P.fs.length, n = P.fs[i].length ∧ k ≤ n ∧ xs = P.fs[i].take k ∧ a = 8 + (funsB (P.fs.take i)).length + 1 + (codeB (P.fs[i].take k)).length
theorem outer_start (l : List UInt8) : OuterOk l 0 8 [] := fun P _ _ => ⟨by omega, by simp, by simp [funsB]⟩
theorem outer_in {l : List UInt8} {i a : Nat} {fs : List (List In)} (h : OuterOk l i a fs) (hi : (i : Int) < byteAt l 7) : InnerOk l i (byteAt l a).toNat 0 (a + 1) [] := by
  intro P hP hl
  subst hl
  obtain ⟨-, -, rfl⟩ := h P hP rfl
  have h7 := (head_bytes hP).2.2.2
  have hlt : i < P.fs.length := by omega
  have h1 := at_fun P hlt
  rw [funB] at h1
  have h2 := h1.left.one
  have := hP.small _ (List.getElem_mem hlt)
  refine ⟨hlt, by omega, by omega, by simp, by simp [codeB]⟩
theorem inner_plain {l : List UInt8} {i n k a : Nat} {xs : List In} (h : InnerOk l i n k a xs) (hk : k < n) (ho : ¬ byteAt l a = 1) : InnerOk l i n (k + 1) (a + 4) (xs ++ [⟨byteAt l a, byteAt l (a + 1), byteAt l (a + 2), byteAt l (a + 3)⟩]) := by
  intro P hP hl
  subst hl
  obtain ⟨hi, hn, hk2, rfl, rfl⟩ := h P hP rfl
  have hkl : k < P.fs[i].length := by omega
  have hA := at_ins P hi hkl
  have hsh : shapeB P.fs[i][k].o P.fs[i][k].a P.fs[i][k].b P.fs[i][k].c = true := List.all_eq_true.1 (hP.shapes _ (List.getElem_mem hi)) _ (List.getElem_mem hkl)
  obtain ⟨o1, o2, hc, hoth⟩ := shape_parts hsh
  generalize he : 8 + (funsB (P.fs.take i)).length + 1 + (codeB (P.fs[i].take k)).length = a at *
  have hno : ¬ P.fs[i][k].o = 1 := by
    intro e
    rw [insBI, insB_const _ _ _ _ e] at hA
    have := hA.left.left.one
    omega
  obtain ⟨q1, q2, q3, q4, q5, q6⟩ := hoth hno
  rw [insBI, insB_other _ _ _ _ hno] at hA
  have e0 := hA.left.left.left.one
  have e1 := hA.left.left.right.one
  have e2 := hA.left.right.one
  have e3 := hA.right.one
  simp only [be_length, List.length_append] at e1 e2 e3
  rw [show a + (1 + 1) = a + 2 by omega] at e2
  rw [show a + (1 + 1 + 1) = a + 3 by omega] at e3
  refine ⟨hi, hn, by omega, ?_, ?_⟩
  · rw [List.take_succ_eq_append_getElem hkl]
    congr 1
    rw [List.cons.injEq]
    refine ⟨In.ext' ?_ ?_ ?_ ?_, rfl⟩ <;> simp only <;> omega
  · rw [codeB_snoc hkl, insB_other _ _ _ _ hno, List.length_append]
    simp only [be_length, List.length_append]
    omega
def sgn (v : Int) : Int := if 2147483648 ≤ v then v - 4294967296 else v
theorem inner_const {l : List UInt8} {i n k a : Nat} {xs : List In} (h : InnerOk l i n k a xs) (hk : k < n) (ho : byteAt l a = 1) : InnerOk l i n (k + 1) (a + 6) (xs ++ [⟨byteAt l a, byteAt l (a + 1), sgn (byteAt l (a + 2) * 16777216 + byteAt l (a + 3) * 65536 + byteAt l (a + 4) * 256 + byteAt l (a + 5)), 0⟩]) ∧ ∀ P, Good P → l = putB P → a + 6 ≤ l.length := by
  have key : ∀ P, Good P → l = putB P → ∃ h : i < P.fs.length, ∃ hkl : k < P.fs[i].length, a + 6 ≤ l.length ∧ n = P.fs[i].length ∧ xs = P.fs[i].take k ∧ a = 8 + (funsB (P.fs.take i)).length + 1 + (codeB (P.fs[i].take k)).length ∧ (insBI P.fs[i][k]).length = 6 ∧
      (⟨byteAt l a, byteAt l (a + 1), sgn (byteAt l (a + 2) * 16777216 + byteAt l (a + 3) * 65536 + byteAt l (a + 4) * 256 + byteAt l (a + 5)), 0⟩ : In) = P.fs[i][k] := by
    intro P hP hl
    subst hl
    obtain ⟨hi, hn, hk2, rfl, ha⟩ := h P hP rfl
    have hkl : k < P.fs[i].length := by omega
    have hA := at_ins P hi hkl
    have hsh : shapeB P.fs[i][k].o P.fs[i][k].a P.fs[i][k].b P.fs[i][k].c = true := List.all_eq_true.1 (hP.shapes _ (List.getElem_mem hi)) _ (List.getElem_mem hkl)
    obtain ⟨o1, o2, hc, hoth⟩ := shape_parts hsh
    rw [← ha] at hA
    have hyes : P.fs[i][k].o = 1 := by
      refine Classical.byContradiction fun hno => ?_
      rw [insBI, insB_other _ _ _ _ hno] at hA
      have := hA.left.left.left.one
      omega
    obtain ⟨q1, q2, q3, q4, q5⟩ := hc hyes
    have hL := hA.len
    rw [insBI, insB_const _ _ _ _ hyes] at hA hL
    have e0 := hA.left.left.one
    have e1 := hA.left.right.one
    have e2 := hA.right.four
    simp only [be_length, List.length_append] at e1 e2 hL
    obtain ⟨f0, f1, f2, f3⟩ := e2
    have a2 : a + (1 + 1) = a + 2 := by omega
    have a3 : a + (1 + 1) + 1 = a + 3 := by omega
    have a4 : a + (1 + 1) + 2 = a + 4 := by omega
    have a5 : a + (1 + 1) + 3 = a + 5 := by omega
    rw [a2] at f0
    rw [a3] at f1
    rw [a4] at f2
    rw [a5] at f3
    refine ⟨hi, hkl, by omega, hn, rfl, ha, by rw [insBI, insB_const _ _ _ _ hyes]; simp [be_length], ?_⟩
    rw [f0, f1, f2, f3]
    refine In.ext' (by simp only; omega) (by simp only; omega) ?_ (by simp only; omega)
    simp only [sgn]
    split <;> omega
  refine ⟨fun P hP hl => ?_, fun P hP hl => (key P hP hl).2.2.1⟩
  obtain ⟨hi, hkl, hlen, hn, hx, ha, h6, he⟩ := key P hP hl
  refine ⟨hi, hn, by omega, ?_, ?_⟩
  · rw [List.take_succ_eq_append_getElem hkl, he, hx]
  · rw [codeB_snoc hkl, List.length_append]
    rw [insBI] at h6
    omega
theorem inner_out {l : List UInt8} {i n k a a0 : Nat} {xs : List In} {fs : List (List In)} (h : InnerOk l i n k a xs) (ho : OuterOk l i a0 fs) (hx : ¬ (k < n ∧ a + 4 ≤ l.length)) : OuterOk l (i + 1) a (fs ++ [xs]) := by
  intro P hP hl
  subst hl
  obtain ⟨hi, hn, hk2, rfl, ha⟩ := h P hP rfl
  obtain ⟨-, rfl, -⟩ := ho P hP rfl
  have hkn : k = P.fs[i].length := by
    refine Classical.byContradiction fun hne => hx ⟨by omega, ?_⟩
    have hkl : k < P.fs[i].length := by omega
    have hL := (at_ins P hi hkl).len
    have h4 : 4 ≤ (insBI P.fs[i][k]).length := by
      rw [insBI]
      by_cases e : P.fs[i][k].o = 1
      · rw [insB_const _ _ _ _ e]; simp [be_length]
      · rw [insB_other _ _ _ _ e]; simp [be_length]
    omega
  refine ⟨by omega, ?_, ?_⟩
  · rw [List.take_succ_eq_append_getElem hi, hkn, List.take_length]
  · rw [funsB_snoc hi, List.length_append, funB, List.length_append, be_length, ha, hkn, List.take_length]
    omega
theorem outer_out {l : List UInt8} {i a : Nat} {fs : List (List In)} (h : OuterOk l i a fs) (hx : ¬ ((i : Int) < byteAt l 7 ∧ a < l.length)) : ∀ P, Good P → l = putB P → fs = P.fs := by
  intro P hP hl
  subst hl
  obtain ⟨hi, rfl, ha⟩ := h P hP rfl
  have h7 := (head_bytes hP).2.2.2
  have : i = P.fs.length := by
    refine Classical.byContradiction fun hne => hx ⟨by omega, ?_⟩
    have hL := (at_fun P (by omega : i < P.fs.length)).len
    rw [funB, List.length_append, be_length] at hL
    omega
  rw [this, List.take_length]
def RGetPost (s : ByteArray) (w : World) (e : Ending) (w' : World) : Prop := Below w.heap.size w w' ∧
      ((∃ P fa fc, Good P ∧ s = strB (putB P) ∧ e = .returned (.tuple #[.agg #[.slice fa P.fs.length fc, .int .i64 P.futs, .int .i64 P.depth, .int .i64 P.fuel], .int .i64 0]) ∧ SlF w' (.slice fa P.fs.length fc) P.fs) ∨
       ((∀ P, Good P → ¬ s = strB (putB P)) ∧ e = .returned (.tuple #[.agg #[.slice none 0 0, .int .i64 0, .int .i64 0, .int .i64 0], .int .i64 4])))
theorem getF_no {s : ByteArray} {w w' : World} (h : ∀ P, Good P → ¬ s = strB (putB P)) (hb : Below w.heap.size w w') : RGetPost s w (.returned (.tuple #[.agg #[.slice none 0 0, .int .i64 0, .int .i64 0, .int .i64 0], .int .i64 4])) w' := ⟨hb, .inr ⟨h, rfl⟩⟩
end Go.Proofs.YtjaiicjnabpapaaDoor
