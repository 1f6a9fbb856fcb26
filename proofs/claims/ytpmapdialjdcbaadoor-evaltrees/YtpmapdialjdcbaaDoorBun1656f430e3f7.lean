/-
  Helpers: C2Get, C2Back.
-/
import Derived.Test.YtpmapdialjdcbaaDoorBun4d4d4aad1956
namespace Go.Proofs.YtpmapdialjdcbaaDoor.C2
open Go.RowKit

theorem SlF.kept {w w' : World} {v : Value} {fs : List (List In)} (h : SlF w v fs) (hb : Below w.heap.size w w') : SlF w' v fs := h.still (still_of_below hb)
theorem rdP_small (s : List UInt8) (p : Nat) : (rdP s p).fs.length ≤ 1000000 ∧ ∀ f ∈ (rdP s p).fs, f.length ≤ 1000000 := by
  constructor
  · have := (rdC_eq s (p + 4)).2
    simp [rdP]
    omega
  · intro f hf
    simp only [rdP, List.mem_map] at hf
    obtain ⟨k, -, rfl⟩ := hf
    have := (rdC_eq s (rdFs s (p + 5) k)).2
    simp [rdF]
    omega
theorem putE_cases (p : Pr) : putE p = 0 ∨ putE p = 1 ∨ putE p = 2 := by
  unfold putE
  split
  · simp
  · split <;> simp
theorem str_eq {a b : ByteArray} (h : a = b) : (a.toList == b.toList) = true := by rw [h]; simp
theorem str_ne {a b : ByteArray} (h : ¬ a = b) : (a.toList == b.toList) = false := by
  rw [beq_eq_false_iff_ne]
  intro e
  exact h (WideShapes.bytes_inj (by simpa [ByteArray.toList_eq] using e))
end Go.Proofs.YtpmapdialjdcbaaDoor.C2
namespace Go.Proofs.YtpmapdialjdcbaaDoor.C2
open Go.RowKit

/-- l lies in s at p -/
def At (s : List UInt8) (p : Nat) (l : List UInt8) : Prop := ∃ pre post, s = pre ++ (l ++ post) ∧ pre.length = p
theorem At.left {s : List UInt8} {p : Nat} {a b : List UInt8} (h : At s p (a ++ b)) : At s p a := by
  obtain ⟨pre, post, h1, h2⟩ := h
  exact ⟨pre, b ++ post, by rw [h1, List.append_assoc], h2⟩
theorem At.right {s : List UInt8} {p : Nat} {a b : List UInt8} (h : At s p (a ++ b)) : At s (p + a.length) b := by
  obtain ⟨pre, post, h1, h2⟩ := h
  exact ⟨pre ++ a, post, by rw [h1]; simp, by simp [h2]⟩
theorem At.byte {s : List UInt8} {p : Nat} {l : List UInt8} (h : At s p l) (i : Nat) (hi : i < l.length) : byteAt s (p + i) = (l[i].toNat : Int) := by
  obtain ⟨pre, post, h1, h2⟩ := h
  subst h2
  unfold byteAt
  rw [h1, List.getD_eq_getElem?_getD, List.getElem?_append_right (by omega)]
  have e : pre.length + i - pre.length = i := by omega
  rw [e, List.getElem?_append_left hi, List.getElem?_eq_getElem hi]
  rfl
theorem byteN_nat (v : Int) (k : Nat) : ((byteN v k).toNat : Int) = v / 2 ^ (8 * k) % 256 := by
  have := cellU_byteN v k
  simpa [cellU] using this
theorem take1 {s : List UInt8} {p : Nat} {v : Int} (h : At s p (be 1 v)) (h0 : 0 ≤ v) (h1 : v ≤ 255) : takeV s p 1 = v := by
  have b0 := h.byte 0 (by simp [be])
  simp only [be, Nat.add_zero, List.getElem_cons_zero, byteN_nat] at b0
  rw [takeV_one, b0]
  simp
  omega
theorem take2 {s : List UInt8} {p : Nat} {v : Int} (h : At s p (be 2 v)) (h0 : 0 ≤ v) (h1 : v ≤ 65535) : takeV s p 2 = v := by
  have b0 := h.byte 0 (by simp [be])
  have b1 := h.byte 1 (by simp [be])
  simp only [be, Nat.add_zero, List.getElem_cons_zero, List.getElem_cons_succ, byteN_nat] at b0 b1
  simp only [takeV, rdU, Nat.add_zero]
  rw [b0, b1]
  unfold wrap32
  simp
  omega
theorem take4 {s : List UInt8} {p : Nat} {v : Int} (h : At s p (be 4 v)) (h0 : -2147483648 ≤ v) (h1 : v ≤ 2147483647) : takeV s p 4 = v := by
  have b0 := h.byte 0 (by simp [be])
  have b1 := h.byte 1 (by simp [be])
  have b2 := h.byte 2 (by simp [be])
  have b3 := h.byte 3 (by simp [be])
  simp only [be, Nat.add_zero, List.getElem_cons_zero, List.getElem_cons_succ, byteN_nat] at b0 b1 b2 b3
  simp only [takeV, rdU, Nat.add_zero]
  rw [b0, b1, b2, b3]
  unfold wrap32
  simp
  omega
theorem take0 (s : List UInt8) (p : Nat) : takeV s p 0 = 0 := by simp [takeV, rdU, wrap32]
theorem inB_iff {v lo hi : Int} : inB v lo hi = true ↔ lo ≤ v ∧ v ≤ hi := by simp [inB]
theorem lasts_other (o : Int) (h1 : 1 ≤ o) (h2 : o ≤ 15) (h : ¬ o = 1) : lastOf o 0 ≤ 39 ∧ lastOf o 1 ≤ 39 ∧ lastOf o 2 ≤ 39 := by
  rcases (by omega : o = 2 ∨ o = 3 ∨ o = 4 ∨ o = 5 ∨ o = 6 ∨ o = 7 ∨ o = 8 ∨ o = 9 ∨ o = 10 ∨ o = 11 ∨ o = 12 ∨ o = 13 ∨ o = 14 ∨ o = 15) with rfl | rfl | rfl | rfl | rfl | rfl | rfl | rfl | rfl | rfl | rfl | rfl | rfl | rfl <;> decide +kernel
theorem first_small {l : Int} (h : l ≤ 39) : firstOf l = 0 := by unfold firstOf; rw [if_neg (by omega)]
theorem shape_parts {o a b c : Int} (h : shapeB o a b c = true) : 1 ≤ o ∧ o ≤ 15 ∧ (o = 1 → 0 ≤ a ∧ a ≤ 255 ∧ -2147483648 ≤ b ∧ b ≤ 2147483647 ∧ c = 0) ∧ (¬ o = 1 → 0 ≤ a ∧ a ≤ 255 ∧ 0 ≤ b ∧ b ≤ 255 ∧ 0 ≤ c ∧ c ≤ 255) := by
  simp only [shapeB, Bool.and_eq_true, inB_iff] at h
  obtain ⟨⟨⟨⟨h1, h2⟩, ha⟩, hb⟩, hc⟩ := h
  refine ⟨h1, h2, fun h => ?_, fun h => ?_⟩
  · subst h
    have e0 : lastOf 1 0 = 7 := by decide +kernel
    have e1 : lastOf 1 1 = 2147483647 := by decide +kernel
    have e2 : lastOf 1 2 = 0 := by decide +kernel
    have g0 : firstOf 7 = 0 := by decide +kernel
    have g1 : firstOf 2147483647 = -2147483648 := by decide +kernel
    have g2 : firstOf 0 = 0 := by decide +kernel
    rw [e0, g0] at ha
    rw [e1, g1] at hb
    rw [e2, g2] at hc
    omega
  · obtain ⟨l0, l1, l2⟩ := lasts_other o h1 h2 h
    rw [first_small l0] at ha
    rw [first_small l1] at hb
    rw [first_small l2] at hc
    omega
/-- an instruction that lies there is read, and the next one begins behind it -/
theorem ins_back {s : List UInt8} {p : Nat} {o a b c : Int} (h : At s p (insB o a b c)) (hs : shapeB o a b c = true) : rdI s p = ⟨o, a, b, c⟩ ∧ rdN s p = p + (insB o a b c).length := by
  obtain ⟨h1, h2, hc, hn⟩ := shape_parts hs
  have ho : rdO s p = o := take1 (At.left h) (by omega) (by omega)
  have hr := At.right h
  simp only [be_length] at hr
  by_cases h1' : o = 1
  · obtain ⟨a0, a1, b0, b1, c0⟩ := hc h1'
    subst h1'
    have w0 : widthOf 1 0 = 1 := by decide
    have w1 : widthOf 1 1 = 4 := by decide
    have w2 : widthOf 1 2 = 0 := by decide
    simp only [restB, w0, w1, w2, if_true] at hr
    have ea := take1 hr.left a0 a1
    have hr2 := hr.right
    simp only [be_length] at hr2
    have eb := take4 hr2.left b0 b1
    have e : rdI s p = ⟨1, a, b, c⟩ := by
      simp only [rdI, rdA, ho, rdPos]
      simp only [Int.natCast_zero, Int.natCast_one, show ((2 : Nat) : Int) = 2 from rfl, w0, w1, w2]
      rw [c0]
      exact congr (congr (congrArg (In.mk 1) ea) eb) (take0 _ _)
    refine ⟨e, ?_⟩
    simp only [rdN, ho, rdPos, insB, restB, List.length_append, be_length]
    simp [w0, w1, w2, be_length]
  · obtain ⟨a0, a1, b0, b1, c0, c1⟩ := hn h1'
    have w0 : widthOf o 0 = 1 := by simp [widthOf, h1']
    have w1 : widthOf o 1 = 1 := by simp [widthOf, h1']
    have w2 : widthOf o 2 = 1 := by simp [widthOf, h1']
    simp only [restB, w0, w1, w2, if_true] at hr
    have ea := take1 hr.left a0 a1
    have hr2 := hr.right
    simp only [be_length] at hr2
    have eb := take1 hr2.left b0 b1
    have hr3 := hr2.right
    simp only [be_length] at hr3
    have ec := take1 hr3 c0 c1
    have e : rdI s p = ⟨o, a, b, c⟩ := by
      simp only [rdI, rdA, ho, rdPos]
      simp only [Int.natCast_zero, Int.natCast_one, show ((2 : Nat) : Int) = 2 from rfl, w0, w1, w2]
      exact congr (congr (congrArg (In.mk o) ea) eb) ec
    refine ⟨e, ?_⟩
    simp only [rdN, ho, rdPos, insB, restB, List.length_append, be_length]
    simp [w0, w1, w2, be_length]
theorem codeB_split {f : List In} {k : Nat} (h : k < f.length) : codeB f = codeB (f.take k) ++ (insBI f[k] ++ codeB (f.drop (k + 1))) := by
  have e : f = f.take k ++ (f[k] :: f.drop (k + 1)) := by rw [← List.drop_eq_getElem_cons h, List.take_append_drop]
  refine (congrArg codeB e).trans ?_
  rw [codeB, List.map_append, List.flatten_append, List.map_cons, List.flatten_cons]
  rfl
theorem code_back {s : List UInt8} {p : Nat} {f : List In} (h : At s p (codeB f)) (hs : f.all shapeI = true) (k : Nat) (hk : k ≤ f.length) : rdNs s p k = p + (codeB (f.take k)).length := by
  induction k with
  | zero => simp [rdNs, codeB]
  | succ k ih =>
    have hk' : k < f.length := by omega
    have hsh : shapeI f[k] = true := List.all_eq_true.1 hs _ (List.getElem_mem hk')
    rw [codeB_split hk'] at h
    have h2 := h.right.left
    have hb := ins_back (s := s) (p := p + (codeB (f.take k)).length) h2 hsh
    rw [rdNs, ih (by omega), hb.2, codeB_snoc hk', List.length_append, Nat.add_assoc]
theorem code_at {s : List UInt8} {p : Nat} {f : List In} (h : At s p (codeB f)) (hs : f.all shapeI = true) (k : Nat) (hk : k < f.length) : rdI s (rdNs s p k) = f[k] := by
  have hsh : shapeI f[k] = true := List.all_eq_true.1 hs _ (List.getElem_mem hk)
  rw [code_back h hs k (by omega)]
  rw [codeB_split hk] at h
  exact (ins_back (s := s) (p := p + (codeB (f.take k)).length) h.right.left hsh).1
theorem fun_back {s : List UInt8} {p : Nat} {f : List In} (h : At s p (funB f)) (hs : f.all shapeI = true) (hl : f.length ≤ 40) : rdF s p = f ∧ rdFN s p = p + (funB f).length := by
  have hn : takeV s p 1 = (f.length : Int) := take1 h.left (by omega) (by omega)
  have hc : rdC s p = f.length := by unfold rdC; rw [hn]; simp
  have hr := h.right
  simp only [be_length] at hr
  constructor
  · unfold rdF
    rw [hc]
    apply List.ext_getElem
    · simp
    · intro k h1 h2
      simp
      exact code_at hr hs k h2
  · unfold rdFN
    rw [hc, code_back hr hs f.length (Nat.le_refl _), List.take_length, funB, List.length_append, be_length]
    omega
theorem funsB_split {fs : List (List In)} {k : Nat} (h : k < fs.length) : funsB fs = funsB (fs.take k) ++ (funB fs[k] ++ funsB (fs.drop (k + 1))) := by
  have e : fs = fs.take k ++ (fs[k] :: fs.drop (k + 1)) := by rw [← List.drop_eq_getElem_cons h, List.take_append_drop]
  refine (congrArg funsB e).trans ?_
  rw [funsB, List.map_append, List.flatten_append, List.map_cons, List.flatten_cons]
  rfl
/-- a program that may be put -/
structure Good (p : Pr) : Prop where
  few : p.fs.length ≤ 12
  small : ∀ f ∈ p.fs, f.length ≤ 40
  shapes : ∀ f ∈ p.fs, f.all shapeI = true
  futs : 0 ≤ p.futs ∧ p.futs ≤ 16
  depth : 0 ≤ p.depth ∧ p.depth ≤ 5
  fuel : 1 ≤ p.fuel ∧ p.fuel ≤ 500
theorem good_iff (p : Pr) : Good p ↔ bigB p.fs = false ∧ soundB p = true := by
  constructor
  · intro h
    constructor
    · exact big_not (by have := h.few; omega) fun k hk => by have := h.small _ (List.getElem_mem hk); omega
    · simp only [soundB, Bool.and_eq_true, inB_iff, List.all_eq_true]
      exact ⟨fun f hf => by have := h.shapes f hf; rw [List.all_eq_true] at this; exact this, ⟨h.futs, h.depth⟩, h.fuel⟩
  · intro ⟨h1, h2⟩
    obtain ⟨a, b⟩ := not_big h1
    simp only [soundB, Bool.and_eq_true, inB_iff] at h2
    obtain ⟨c, ⟨d, e⟩, f⟩ := h2
    exact ⟨a, b, fun x hx => List.all_eq_true.1 c x hx, d, e, f⟩
theorem Good.code {p : Pr} (h : Good p) : putE p = 0 := by
  obtain ⟨h1, h2⟩ := (good_iff p).1 h
  simp [putE, h1, h2]
theorem Good.text {p : Pr} (h : Good p) : putT p = putB p := by
  obtain ⟨h1, h2⟩ := (good_iff p).1 h
  simp [putT, h1, h2]
theorem good_of_code {p : Pr} (h : putE p = 0) : Good p := by
  rw [good_iff]
  unfold putE at h
  cases h1 : bigB p.fs
  · cases h2 : soundB p
    · simp [h1, h2] at h
    · exact ⟨rfl, rfl⟩
  · simp [h1] at h
theorem funs_back {s : List UInt8} {p : Nat} {fs : List (List In)} (h : At s p (funsB fs)) (hs : ∀ f ∈ fs, f.all shapeI = true) (hl : ∀ f ∈ fs, f.length ≤ 40) (k : Nat) (hk : k ≤ fs.length) : rdFs s p k = p + (funsB (fs.take k)).length := by
  induction k with
  | zero => simp [rdFs, funsB]
  | succ k ih =>
    have hk' : k < fs.length := by omega
    rw [funsB_split hk'] at h
    have hb := fun_back (s := s) (p := p + (funsB (fs.take k)).length) h.right.left (hs _ (List.getElem_mem hk')) (hl _ (List.getElem_mem hk'))
    rw [rdFs, ih (by omega), hb.2, funsB_snoc hk', List.length_append, Nat.add_assoc]
/-- WHAT IS PUT IS GOT, whatever stands behind it -/
theorem put_back {p : Pr} (hg : Good p) (rest : List UInt8) : rdP (putB p ++ rest) 3 = p := by
  have h : At (putB p ++ rest) 0 (putB p) := ⟨[], rest, by simp, rfl⟩
  have e : putB p = [77, 71, 80] ++ (be 1 p.futs ++ (be 1 p.depth ++ (be 2 p.fuel ++ (be 1 p.fs.length ++ funsB p.fs)))) := by simp [putB, headB]
  generalize (putB p ++ rest) = s at *
  rw [e] at h
  have h1 : At s 3 (be 1 p.futs ++ (be 1 p.depth ++ (be 2 p.fuel ++ (be 1 p.fs.length ++ funsB p.fs)))) := h.right
  have f1 := take1 h1.left hg.futs.1 (by have := hg.futs.2; omega)
  have h2 := h1.right
  simp only [be_length] at h2
  have f2 := take1 h2.left hg.depth.1 (by have := hg.depth.2; omega)
  have h3 := h2.right
  simp only [be_length] at h3
  have f3 := take2 h3.left (by have := hg.fuel.1; omega) (by have := hg.fuel.2; omega)
  have h4 := h3.right
  simp only [be_length] at h4
  have f4 := take1 h4.left (by omega) (by have := hg.few; omega)
  have h5 := h4.right
  simp only [be_length] at h5
  have hc : rdC s (3 + 4) = p.fs.length := by
    have : takeV s (3 + 4) 1 = (p.fs.length : Int) := f4
    unfold rdC
    rw [this]
    simp
  have hfs : ((List.range (rdC s (3 + 4))).map fun k => rdF s (rdFs s (3 + 5) k)) = p.fs := by
    rw [hc]
    apply List.ext_getElem
    · simp
    · intro k h1 h2
      simp
      have h5' : At s 8 (funsB p.fs) := h5
      rw [funs_back h5' hg.shapes hg.small k (by omega)]
      rw [funsB_split h2] at h5'
      exact (fun_back h5'.right.left (hg.shapes _ (List.getElem_mem h2)) (hg.small _ (List.getElem_mem h2))).1
  obtain ⟨fs, futs, depth, fuel⟩ := p
  exact congr (congr (congr (congrArg Pr.mk hfs) f1) f2) f3
theorem put_inj {p q : Pr} (hp : Good p) (hq : Good q) (h : putB p = putB q) : p = q := by
  have h1 := put_back hp []
  have h2 := put_back hq []
  rw [h] at h1
  exact h1.symm.trans h2
/-- no program's bytes go on to another's -/
theorem put_free {p q : Pr} (hp : Good p) (hq : Good q) {rest : List UInt8} (h : putB q = putB p ++ rest) : rest = [] := by
  have h1 := put_back hp rest
  rw [← h] at h1
  have h2 := put_back hq []
  rw [List.append_nil] at h2
  have e : q = p := h2.symm.trans h1
  rw [e] at h
  have := congrArg List.length h
  simp at this
  exact this
theorem strB_data (l : List UInt8) : (strB l).data.toList = l := by simp [strB]
theorem strB_inj {a b : List UInt8} (h : strB a = strB b) : a = b := by rw [← strB_data a, h, strB_data]
end Go.Proofs.YtpmapdialjdcbaaDoor.C2
