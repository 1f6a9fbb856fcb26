/-
  Helpers: L3RefP, L3RefF, L3RefN, L3RefA.
-/
import Derived.Test.YtnhogbgnnnniaaaDoorAsmAllBun21
import Derived.Test.YtnhogbgnnnniaaaDoorAsmAllBun25
import Derived.Laws.Strings2
namespace Go.Proofs.YtnhogbgnnnniaaaDoor.L3
open Go.RowKit

def isL (c : UInt8) : Prop := 97 ≤ c.toNat ∧ c.toNat ≤ 122
def isD (c : UInt8) : Prop := 48 ≤ c.toNat ∧ c.toNat ≤ 57
instance (c : UInt8) : Decidable (isL c) := by unfold isL; infer_instance
instance (c : UInt8) : Decidable (isD c) := by unfold isD; infer_instance
def seg (l : List UInt8) (a b : Nat) : List UInt8 := (l.drop a).take (b - a)
theorem take_seg (l : List UInt8) {a b : Nat} (h : a ≤ b) : l.take b = l.take a ++ seg l a b := by
  rw [seg, ← List.take_add]
  congr 1
  omega
theorem seg_succ (l : List UInt8) {a b : Nat} (h : a ≤ b) (hb : b < l.length) : seg l a (b + 1) = seg l a b ++ [l[b]] := by
  unfold seg
  rw [show b + 1 - a = (b - a) + 1 by omega, List.take_succ_eq_append_getElem (by simp; omega)]
  congr 2
  simp
  congr 1
  omega
theorem seg_self (l : List UInt8) (a : Nat) : seg l a a = [] := by simp [seg]
theorem seg_length (l : List UInt8) {a b : Nat} (h : a ≤ b) (hb : b ≤ l.length) : (seg l a b).length = b - a := by simp [seg]; omega
theorem seg_one (l : List UInt8) {a : Nat} (h : a < l.length) : seg l a (a + 1) = [l[a]] := by rw [seg_succ l (Nat.le_refl a) h, seg_self]; rfl
theorem strB_seg (l : List UInt8) (a b : Nat) : (strB l).extract a b = strB (seg l a b) := by
  apply ByteArray.ext
  simp [strB, ByteArray.extract, ByteArray.copySlice, seg]
section
variable {sl : List UInt8} {st st' : St} {i j : Nat}
theorem go_next (h : lexGo st0 (sl.take i) = .inr st) (hi : i < sl.length) (ht : takeF st sl[i].toNat = some st') : lexGo st0 (sl.take (i + 1)) = .inr st' := by
  rw [List.take_succ_eq_append_getElem hi, lexGo_append, h]
  exact (goY rfl ht).trans rfl
theorem go_seg (h : lexGo st0 (sl.take i) = .inr st) (hij : i ≤ j) (ht : lexGo st (seg sl i j) = .inr st') : lexGo st0 (sl.take j) = .inr st' := by
  rw [take_seg sl hij, lexGo_append, h]
  exact ht
theorem told_seg {x : Int} (h : lexGo st0 (sl.take i) = .inr st) (hij : i ≤ j) (hl : sl.length ≤ 8192) (ht : lexGo st (seg sl i j) = .inl x) : lexF sl = ([], x, 3) := by
  have e : lexGo st0 (sl ++ [10]) = .inl x := by
    have : sl ++ [10] = sl.take i ++ (seg sl i j ++ (sl.drop j ++ [10])) := by
      rw [← List.append_assoc (seg sl i j), ← List.append_assoc, ← List.append_assoc, ← take_seg sl hij, List.take_append_drop]
    rw [this, lexGo_append, h]
    show lexGo st (seg sl i j ++ (sl.drop j ++ [10])) = _
    rw [lexGo_append, ht]
  unfold lexF
  rw [if_neg (by omega), e]
theorem told_at (h : lexGo st0 (sl.take i) = .inr st) (hl : sl.length ≤ 8192) (hi : i < sl.length) (ht : takeF st sl[i].toNat = none) : lexF sl = ([], st.ln, 3) :=
  told_seg (j := i + 1) h (by omega) hl (by rw [seg_one sl hi]; exact goN rfl ht)
theorem told_end (h : lexGo st0 (sl.take i) = .inr st) (hl : sl.length ≤ 8192) (hi : ¬ i < sl.length) (ht : takeF st 10 = none) : lexF sl = ([], st.ln, 3) := by
  rw [List.take_of_length_le (by omega)] at h
  have e : lexGo st0 (sl ++ [10]) = .inl st.ln := by
    rw [lexGo_append, h]
    exact goN (b := 10) rfl ht
  unfold lexF
  rw [if_neg (by omega), e]
end
/-- the reference at the place i: what it has, all of it ended -/
structure RefAt (sl : List UInt8) (i : Nat) (T : List Tk) (ln : Int) : Prop where
  at' : ∃ st s0, lexGo st0 (sl.take i) = .inr st ∧ Cl st ∧ finF st = some s0 ∧ s0.T = T ∧ s0.ln = ln ∧
    (st.ins = 0 ∨ (st.ins = 1 ∧ ∀ h : i < sl.length, sl[i] = 10) ∨ ((st.ins = 2 ∨ st.ins = 4) ∧ ∀ h : i < sl.length, ¬ isL sl[i] ∧ ¬ isD sl[i]))
theorem ref0 (sl : List UInt8) : RefAt sl 0 [] 1 := ⟨st0, st0, rfl, cl0, rfl, rfl, rfl, .inl rfl⟩
theorem nat_ten {c : UInt8} (h : c = 10) : (c.toNat : Int) = 10 := by rw [h]; rfl
theorem ten_nat {c : UInt8} (h : ¬ c = 10) : ¬ (c.toNat : Int) = 10 := fun e => h (by apply UInt8.toNat.inj; simpa using (by omega : c.toNat = 10))
section
variable {sl : List UInt8} {i : Nat} {T : List Tk} {ln : Int}
theorem RefAt.done (h : RefAt sl i T ln) (hl : sl.length ≤ 8192) (hi : ¬ i < sl.length) : lexF sl = (if openT T then T ++ [⟨4, [], 0, ln⟩] else T, 0, 0) := by
  obtain ⟨st, s0, h1, h2, h3, rfl, rfl, -⟩ := h
  rw [List.take_of_length_le (by omega)] at h1
  have e : takeF st 10 = some s0.endL := by rw [ten_fin, h3]; rfl
  have e2 : lexGo st0 (sl ++ [10]) = .inr s0.endL := by
    rw [lexGo_append, h1]
    exact (goY (b := 10) rfl e).trans rfl
  unfold lexF
  rw [if_neg (by omega), e2]
  rfl
theorem RefAt.ten (h : RefAt sl i T ln) (hi : i < sl.length) (hc : sl[i] = 10) : RefAt sl (i + 1) (if openT T then T ++ [⟨4, [], 0, ln⟩] else T) (ln + 1) := by
  obtain ⟨st, s0, h1, h2, h3, rfl, rfl, -⟩ := h
  have e : takeF st 10 = some s0.endL := by rw [ten_fin, h3]; rfl
  have i0 := fin_ins h3
  exact ⟨s0.endL, s0.endL, go_next h1 hi (by rw [nat_ten hc]; exact e), (h2.take e).1, fin_zero i0, rfl, rfl, .inl i0⟩
/-- where the next byte is none of a token's, and no line's end -/
theorem RefAt.open (h : RefAt sl i T ln) (hi : i < sl.length) (h10 : ¬ sl[i] = 10) : ∃ st s0, lexGo st0 (sl.take i) = .inr st ∧ Cl st ∧ finF st = some s0 ∧ s0.T = T ∧ s0.ln = ln ∧ s0.ins = 0 ∧ s0.ws = [] ∧ s0.num = 0 ∧ st.ins ≠ 1 ∧ (isL sl[i] ∨ isD sl[i] → st = s0) ∧ st.ln = ln := by
  obtain ⟨st, s0, h1, h2, h3, rfl, rfl, h4⟩ := h
  obtain ⟨q0, q1, q2, q3⟩ := h2.fin h3
  refine ⟨st, s0, h1, h2, h3, rfl, rfl, q0, q1, q2, ?_, ?_, q3.symm⟩
  · rcases h4 with h | ⟨-, h⟩ | ⟨h, -⟩
    · omega
    · exact absurd (h hi) h10
    · omega
  · intro ha
    rcases h4 with h | ⟨-, h⟩ | ⟨-, h⟩
    · exact Option.some.inj ((fin_zero h).symm.trans h3)
    · exact absurd (h hi) h10
    · obtain ⟨n1, n2⟩ := h hi
      exact absurd ha (by rintro (a | a); exact n1 a; exact n2 a)
theorem RefAt.blank (h : RefAt sl i T ln) (hi : i < sl.length) (hc : (sl[i].toNat : Int) = 32 ∨ (sl[i].toNat : Int) = 9 ∨ (sl[i].toNat : Int) = 13) : RefAt sl (i + 1) T ln := by
  obtain ⟨st, s0, h1, h2, h3, h4, h5, q0, q1, q2, hn, -⟩ := h.open hi (fun e => by have := nat_ten e; omega)
  have e : takeF st sl[i].toNat = some s0 := by
    rw [takeF_rest (fun h => hn h.1) (by omega) (by omega), h3]
    exact if_pos hc
  exact ⟨s0, s0, go_next h1 hi e, (h2.take e).1, fin_zero q0, h4, h5, .inl q0⟩
theorem RefAt.sign (h : RefAt sl i T ln) (hi : i < sl.length) (hc : (sl[i].toNat : Int) = 58 ∨ (sl[i].toNat : Int) = 44) : RefAt sl (i + 1) (T ++ [⟨3, seg sl i (i + 1), 0, ln⟩]) ln := by
  obtain ⟨st, s0, h1, h2, h3, rfl, rfl, q0, q1, q2, hn, -⟩ := h.open hi (fun e => by have := nat_ten e; omega)
  have hby : byteOf (sl[i].toNat : Int) = sl[i] := by simp [byteOf]
  have e : takeF st sl[i].toNat = some ⟨s0.T ++ [⟨3, [sl[i]], 0, s0.ln⟩], s0.ln, s0.ins, s0.ws, s0.num, s0.sg⟩ := by
    rw [takeF_rest (fun h => hn h.1) (by omega) (by omega), h3]
    show othF s0 _ = _
    unfold othF
    rw [if_neg (by omega), if_neg (by omega), if_neg (by omega), if_neg (by omega), if_pos hc, hby]
  rw [seg_one sl hi]
  exact ⟨_, _, go_next h1 hi e, (h2.take e).1, fin_zero q0, rfl, rfl, .inl q0⟩
theorem RefAt.wrong (h : RefAt sl i T ln) (hl : sl.length ≤ 8192) (hi : i < sl.length) (h10 : ¬ sl[i] = 10)
    (hb : ¬ ((sl[i].toNat : Int) = 32 ∨ (sl[i].toNat : Int) = 9 ∨ (sl[i].toNat : Int) = 13)) (h35 : ¬ (sl[i].toNat : Int) = 35) (h45 : ¬ (sl[i].toNat : Int) = 45) (hs : ¬ ((sl[i].toNat : Int) = 58 ∨ (sl[i].toNat : Int) = 44)) (hL : ¬ isL sl[i]) (hD : ¬ isD sl[i]) : lexF sl = ([], ln, 3) := by
  obtain ⟨st, s0, h1, h2, h3, h4, h5, q0, q1, q2, hn, -, h6⟩ := h.open hi h10
  rw [← h6]
  refine told_at h1 hl hi ?_
  unfold isL at hL
  unfold isD at hD
  rw [takeF_rest (fun h => hn h.1) (by omega) (by omega), h3]
  show othF s0 _ = none
  unfold othF
  rw [if_neg hb, if_neg (ten_nat h10), if_neg h35, if_neg h45, if_neg hs]
theorem RefAt.comment (h : RefAt sl i T ln) (hi : i < sl.length) (hc : (sl[i].toNat : Int) = 35) {j : Nat} (hij : i + 1 ≤ j) (hno : ∀ b ∈ seg sl (i + 1) j, b ≠ 10) (hend : ∀ h : j < sl.length, sl[j] = 10) : RefAt sl j T ln := by
  obtain ⟨st, s0, h1, h2, h3, rfl, rfl, q0, q1, q2, hn, -⟩ := h.open hi (fun e => by have := nat_ten e; omega)
  have e : takeF st sl[i].toNat = some ⟨s0.T, s0.ln, 1, s0.ws, s0.num, s0.sg⟩ := by
    rw [takeF_rest (fun h => hn h.1) (by omega) (by omega), h3]
    show othF s0 _ = _
    unfold othF
    rw [if_neg (by omega), if_neg (by omega), if_pos hc]
  have g := go_next h1 hi e
  exact ⟨_, ⟨s0.T, s0.ln, 0, s0.ws, s0.num, s0.sg⟩, go_seg g hij (comment_run rfl _ hno), ⟨fun _ => q1, fun _ => q2⟩, fin_one rfl, rfl, rfl, .inr (.inl ⟨rfl, hend⟩)⟩
theorem let_run : ∀ (l : List UInt8) (T : List Tk) (ln num sg : Int) (ins : Int) (ws : List UInt8), (∀ b ∈ l, isL b) → ¬ (ins = 1 ∨ ins = 3 ∨ ins = 4) → l ≠ [] → lexGo ⟨T, ln, ins, ws, num, sg⟩ l = .inr ⟨T, ln, 2, ws ++ l, num, sg⟩
  | [], _, _, _, _, _, _, _, _, hne => absurd rfl hne
  | b :: r, T, ln, num, sg, ins, ws, hl, hi, _ => by
    obtain ⟨b1, b2⟩ := hl b (by simp)
    have hby : byteOf (b.toNat : Int) = b := by simp [byteOf]
    have e : takeF ⟨T, ln, ins, ws, num, sg⟩ b.toNat = some ⟨T, ln, 2, ws ++ [b], num, sg⟩ := by
      rw [takeF_let (by simp only; omega) (by omega) (by omega)]
      unfold letF
      rw [if_neg (by simp only; omega), hby]
    rw [goY rfl e]
    by_cases hr : r = []
    · subst hr
      rfl
    · rw [let_run r T ln num sg 2 (ws ++ [b]) (fun x hx => hl x (by simp [hx])) (by omega) hr]
      simp
theorem RefAt.word (h : RefAt sl i T ln) (hl : sl.length ≤ 8192) (hi : i < sl.length) (hc : isL sl[i]) {j : Nat} (hij : i < j) (hall : ∀ b ∈ seg sl i j, isL b) (hjl : j ≤ sl.length) :
    ((∃ h : j < sl.length, isD sl[j]) → lexF sl = ([], ln, 3)) ∧ ((∀ h : j < sl.length, ¬ isL sl[j] ∧ ¬ isD sl[j]) → RefAt sl j (T ++ [⟨1, seg sl i j, 0, ln⟩]) ln) := by
  have hcc := hc
  obtain ⟨c1, c2⟩ := hcc
  obtain ⟨st, s0, h1, h2, h3, h4, h5, q0, q1, q2, hn, hst, -⟩ := h.open hi (fun e => by have := nat_ten e; omega)
  obtain rfl := hst (.inl hc)
  obtain ⟨T', ln', ins, ws, num, sg⟩ := st
  simp only at h4 h5 q0 q1 q2
  subst h4 h5 q0 q1 q2
  have hne : seg sl i j ≠ [] := fun e => by
    have := seg_length sl (Nat.le_of_lt hij) hjl
    rw [e] at this
    simp at this
    omega
  have hrun := let_run (seg sl i j) T' ln' 0 sg 0 [] hall (by omega) hne
  rw [List.nil_append] at hrun
  have g := go_seg h1 (Nat.le_of_lt hij) hrun
  refine ⟨fun ⟨hj, hd⟩ => ?_, fun hno => ⟨_, ⟨T' ++ [⟨1, seg sl i j, 0, ln'⟩], ln', 0, [], 0, sg⟩, g, ⟨fun hx => absurd rfl hx, fun _ => rfl⟩, rfl, rfl, rfl, .inr (.inr ⟨.inl rfl, hno⟩)⟩⟩
  obtain ⟨d1, d2⟩ := hd
  exact told_at g hl hj (by rw [takeF_dig (by simp) (by omega) (by omega)]; rfl)
/-- a number: from i on, its digits from i1 to j -/
theorem RefAt.num (h : RefAt sl i T ln) (hl : sl.length ≤ 8192) (hi : i < sl.length) {i1 j : Nat} {g : Int} (hg : (g = -1 ∧ (sl[i].toNat : Int) = 45 ∧ i1 = i + 1) ∨ (g = 1 ∧ isD sl[i] ∧ i1 = i)) (hij : i1 ≤ j) (hjl : j ≤ sl.length)
    (hall : Digs (seg sl i1 j)) (hnd : ∀ h : j < sl.length, ¬ isD sl[j]) :
    (¬ (i1 < j ∧ inR (g * (valF 0 (seg sl i1 j) : Int)) ∧ ∀ h : j < sl.length, ¬ isL sl[j]) → lexF sl = ([], ln, 3)) ∧
    ((i1 < j ∧ inR (g * (valF 0 (seg sl i1 j) : Int)) ∧ ∀ h : j < sl.length, ¬ isL sl[j]) → RefAt sl j (T ++ [⟨2, [], g * (valF 0 (seg sl i1 j) : Int), ln⟩]) ln) := by
  have key : ∃ st, lexGo st0 (sl.take i1) = .inr st ∧ st.T = T ∧ st.ln = ln ∧ st.ws = [] ∧ st.num = 0 ∧ sgF st = g ∧ st.ins ≠ 1 ∧ st.ins ≠ 2 ∧ (i1 = j → st.ins = 3) := by
    rcases hg with ⟨rfl, hc, rfl⟩ | ⟨rfl, hc, rfl⟩
    · obtain ⟨st, s0, h1, h2, h3, rfl, rfl, q0, q1, q2, hn, -⟩ := h.open hi (fun e => by have := nat_ten e; omega)
      have e : takeF st sl[i].toNat = some ⟨s0.T, s0.ln, 3, s0.ws, s0.num, -1⟩ := by
        rw [takeF_rest (fun h => hn h.1) (by omega) (by omega), h3]
        show othF s0 _ = _
        unfold othF
        rw [if_neg (by omega), if_neg (by omega), if_neg (by omega), if_pos hc]
      exact ⟨_, go_next h1 hi e, rfl, rfl, q1, q2, rfl, by simp, by simp, fun _ => rfl⟩
    · have hcc := hc
      obtain ⟨c1, c2⟩ := hcc
      obtain ⟨st, s0, h1, h2, h3, h4, h5, q0, q1, q2, hn, hst, -⟩ := h.open hi (fun e => by have := nat_ten e; omega)
      obtain rfl := hst (.inr hc)
      exact ⟨st, h1, h4, h5, q1, q2, if_pos q0, hn, by omega, fun e => absurd hc (hnd (by omega) |> fun f => by subst e; exact f)⟩
  obtain ⟨st, k1, rfl, rfl, k4, k5, k6, k7, k8, k9⟩ := key
  have hg2 : g = 1 ∨ g = -1 := by rcases hg with ⟨h, -⟩ | ⟨h, -⟩ <;> simp [h]
  by_cases hij2 : i1 < j
  · have hne : seg sl i1 j ≠ [] := fun e => by
      have := seg_length sl hij hjl
      rw [e] at this
      simp at this
      omega
    obtain ⟨hy, hno⟩ := dig_run hg2 (seg sl i1 j) st 0 hall k7 k8 k6 (by rw [k5]; simp) hne
    by_cases hr : inR (g * (valF 0 (seg sl i1 j) : Int))
    · have gg := go_seg k1 hij (hy hr)
      rw [k4] at gg
      refine ⟨fun hx => ?_, fun hx => ⟨_, ⟨st.T ++ [⟨2, [], g * (valF 0 (seg sl i1 j) : Int), st.ln⟩], st.ln, 0, [], 0, g⟩, gg, ⟨fun _ => rfl, fun hx => absurd rfl hx⟩, rfl, rfl, rfl, .inr (.inr ⟨.inr rfl, fun h => ⟨hx.2.2 h, hnd h⟩⟩)⟩⟩
      have hL : ∃ h : j < sl.length, isL sl[j] := Classical.byContradiction fun hn => hx ⟨hij2, hr, fun h hl => hn ⟨h, hl⟩⟩
      obtain ⟨hj, hL⟩ := hL
      obtain ⟨c1, c2⟩ := hL
      have ht := told_at gg hl hj (by rw [takeF_let (by simp) (by omega) (by omega)]; rfl)
      exact ht
    · exact ⟨fun _ => told_seg k1 hij hl (hno hr), fun hx => absurd hx.2.1 hr⟩
  · obtain rfl : i1 = j := by omega
    have h3 := k9 rfl
    refine ⟨fun _ => ?_, fun hx => absurd hx.1 hij2⟩
    have hnone : ∀ c : Int, ¬ (48 ≤ c ∧ c ≤ 57) → takeF st c = none := fun c hc => by
      by_cases hL : 97 ≤ c ∧ c ≤ 122
      · rw [takeF_let k7 hL.1 hL.2]
        exact if_pos (.inl h3)
      · rw [takeF_rest (fun h => k7 h.1) hL hc]
        have : finF st = none := if_pos h3
        rw [this]
        rfl
    by_cases hj : i1 < sl.length
    · have hd := hnd hj
      unfold isD at hd
      exact told_at k1 hl hj (hnone _ (by omega))
    · exact told_end k1 hl hj (hnone 10 (by omega))
end
end Go.Proofs.YtnhogbgnnnniaaaDoor.L3
namespace Go.Proofs.YtnhogbgnnnniaaaDoor.L3
open Go.RowKit

def letB (l : List UInt8) (i : Nat) : Bool := match l[i]? with | some c => decide (isL c) | none => false
def digB (l : List UInt8) (i : Nat) : Bool := match l[i]? with | some c => decide (isD c) | none => false
theorem letB_in {l : List UInt8} {i : Nat} (h : i < l.length) : letB l i = decide (isL l[i]) := by simp [letB, List.getElem?_eq_getElem h]
theorem digB_in {l : List UInt8} {i : Nat} (h : i < l.length) : digB l i = decide (isD l[i]) := by simp [digB, List.getElem?_eq_getElem h]
theorem letB_out {l : List UInt8} {i : Nat} (h : ¬ i < l.length) : letB l i = false := by simp [letB, List.getElem?_eq_none (by omega : l.length ≤ i)]
theorem digB_out {l : List UInt8} {i : Nat} (h : ¬ i < l.length) : digB l i = false := by simp [digB, List.getElem?_eq_none (by omega : l.length ≤ i)]
theorem letB_true {l : List UInt8} {i : Nat} (h : letB l i = true) : ∃ h : i < l.length, isL l[i] := by
  by_cases hi : i < l.length
  · rw [letB_in hi] at h
    exact ⟨hi, by simpa using h⟩
  · rw [letB_out hi] at h
    cases h
theorem letB_false {l : List UInt8} {i : Nat} (h : letB l i = false) : ∀ h : i < l.length, ¬ isL l[i] := fun hi => by
  rw [letB_in hi] at h
  simpa using h
theorem digB_true {l : List UInt8} {i : Nat} (h : digB l i = true) : ∃ h : i < l.length, isD l[i] := by
  by_cases hi : i < l.length
  · rw [digB_in hi] at h
    exact ⟨hi, by simpa using h⟩
  · rw [digB_out hi] at h
    cases h
theorem digB_false {l : List UInt8} {i : Nat} (h : digB l i = false) : ∀ h : i < l.length, ¬ isD l[i] := fun hi => by
  rw [digB_in hi] at h
  simpa using h
theorem letter_any (l : List UInt8) (i : Nat) (w : World) : Calls Tryd.prog 65 #[.string (strB l), .int .i64 (i : Int)] w fun e w' => e = .returned (.bool (letB l i)) ∧ w' = w := by
  have hs : (strB l).size = l.length := strB_size l
  by_cases hi : i < l.length
  · have hby := fun wx => byteL l i hi wx
    rw [letB_in hi]
    have hcs : (isL l[i] ∧ (97 : Int) ≤ l[i].toNat ∧ (l[i].toNat : Int) ≤ 122) ∨ (¬ isL l[i] ∧ decide ((97 : Int) ≤ l[i].toNat) = false) ∨ (¬ isL l[i] ∧ (97 : Int) ≤ l[i].toNat ∧ decide ((l[i].toNat : Int) ≤ 122) = false) := by
      unfold isL
      simp
      omega
    rcases hcs with ⟨h1, h2, h3⟩ | ⟨h1, h2⟩ | ⟨h1, h2, h3⟩
    · rw [decide_eq_true h1]
      generalize l[i].toNat = z at *
      go_enter Tryd.func65, Tryd.ntmps65
      go_wp2_with fail
      go_ret
      exact ⟨rfl, rfl⟩
    · rw [decide_eq_false h1]
      generalize l[i].toNat = z at *
      go_enter Tryd.func65, Tryd.ntmps65
      go_wp2_with fail
      go_ret
      exact ⟨rfl, rfl⟩
    · rw [decide_eq_false h1]
      generalize l[i].toNat = z at *
      go_enter Tryd.func65, Tryd.ntmps65
      go_wp2_with fail
      go_ret
      exact ⟨rfl, rfl⟩
  · rw [letB_out hi]
    go_enter Tryd.func65, Tryd.ntmps65
    go_wp2_with fail
    go_ret
    exact ⟨rfl, rfl⟩
theorem digit_any (l : List UInt8) (i : Nat) (w : World) : Calls Tryd.prog 66 #[.string (strB l), .int .i64 (i : Int)] w fun e w' => e = .returned (.bool (digB l i)) ∧ w' = w := by
  have hs : (strB l).size = l.length := strB_size l
  by_cases hi : i < l.length
  · have hby := fun wx => byteL l i hi wx
    rw [digB_in hi]
    have hcs : (isD l[i] ∧ (48 : Int) ≤ l[i].toNat ∧ (l[i].toNat : Int) ≤ 57) ∨ (¬ isD l[i] ∧ decide ((48 : Int) ≤ l[i].toNat) = false) ∨ (¬ isD l[i] ∧ (48 : Int) ≤ l[i].toNat ∧ decide ((l[i].toNat : Int) ≤ 57) = false) := by
      unfold isD
      simp
      omega
    rcases hcs with ⟨h1, h2, h3⟩ | ⟨h1, h2⟩ | ⟨h1, h2, h3⟩
    · rw [decide_eq_true h1]
      generalize l[i].toNat = z at *
      go_enter Tryd.func66, Tryd.ntmps66
      go_wp2_with fail
      go_ret
      exact ⟨rfl, rfl⟩
    · rw [decide_eq_false h1]
      generalize l[i].toNat = z at *
      go_enter Tryd.func66, Tryd.ntmps66
      go_wp2_with fail
      go_ret
      exact ⟨rfl, rfl⟩
    · rw [decide_eq_false h1]
      generalize l[i].toNat = z at *
      go_enter Tryd.func66, Tryd.ntmps66
      go_wp2_with fail
      go_ret
      exact ⟨rfl, rfl⟩
  · rw [digB_out hi]
    go_enter Tryd.func66, Tryd.ntmps66
    go_wp2_with fail
    go_ret
    exact ⟨rfl, rfl⟩
/-- a number that is cut where it grows too great -/
def capV (v : Nat) : Nat := if v ≤ 1099511627776 then v else 1099511627776
theorem capV_le (v : Nat) : capV v ≤ 1099511627776 := by unfold capV; split <;> omega
theorem capV_step (v d : Nat) : capV (10 * v + d) = if 10 * capV v + d ≤ 1099511627776 then 10 * capV v + d else 1099511627776 := by
  unfold capV
  split <;> split <;> first | omega | (split <;> omega)
theorem capV_in {g : Int} (hg : g = 1 ∨ g = -1) (v : Nat) : inR (g * (capV v : Int)) ↔ inR (g * (v : Int)) := by
  unfold inR capV
  split
  · exact Iff.rfl
  · rcases hg with rfl | rfl <;> omega
theorem capV_same {g : Int} (hg : g = 1 ∨ g = -1) {v : Nat} (h : inR (g * (v : Int))) : capV v = v := by
  unfold inR at h
  unfold capV
  rw [if_pos]
  rcases hg with rfl | rfl <;> omega
theorem valF_snoc (l : List UInt8) (b : UInt8) (v : Nat) : valF v (l ++ [b]) = 10 * valF v l + dgt b := by simp [valF]
/-- what number answers -/
def NumPost (l : List UInt8) (i : Nat) (hi : i < l.length) (w : World) (e : Ending) (w' : World) : Prop :=
  w' = w ∧ ∃ (g : Int) (i1 j : Nat), ((g = -1 ∧ (l[i].toNat : Int) = 45 ∧ i1 = i + 1) ∨ (g = 1 ∧ isD l[i] ∧ i1 = i)) ∧ i1 ≤ j ∧ j ≤ l.length ∧ Digs (seg l i1 j) ∧ (∀ h : j < l.length, ¬ isD l[j]) ∧
    (((i1 < j ∧ inR (g * (valF 0 (seg l i1 j) : Int)) ∧ ∀ h : j < l.length, ¬ isL l[j]) ∧ e = .returned (.tuple #[.int .i64 (g * (valF 0 (seg l i1 j) : Int)), .int .i64 j, .bool true])) ∨
     (¬ (i1 < j ∧ inR (g * (valF 0 (seg l i1 j) : Int)) ∧ ∀ h : j < l.length, ¬ isL l[j]) ∧ ∃ x, e = .returned (.tuple #[.int .i64 x, .int .i64 j, .bool false])))
/-- the digits under way -/
structure NumAt (l : List UInt8) (i1 k : Nat) : Prop where
  le : i1 ≤ k
  len : k ≤ l.length
  digs : Digs (seg l i1 k)
  first : k = i1 ∨ digB l i1 = true
theorem NumAt.next {l : List UInt8} {i1 k : Nat} (h : NumAt l i1 k) (hd : digB l k = true) : NumAt l i1 (k + 1) ∧ ∃ h : k < l.length, valF 0 (seg l i1 (k + 1)) = 10 * valF 0 (seg l i1 k) + dgt l[k] ∧ 48 ≤ l[k].toNat ∧ l[k].toNat ≤ 57 := by
  obtain ⟨hk, h1, h2⟩ := digB_true hd
  have hle := h.le
  have e := seg_succ l h.le hk
  refine ⟨⟨by omega, by omega, ?_, .inr ?_⟩, hk, by rw [e, valF_snoc], h1, h2⟩
  · rw [e]
    intro b hb
    simp at hb
    rcases hb with hb | rfl
    · exact h.digs b hb
    · exact ⟨h1, h2⟩
  · rcases h.first with rfl | h
    · exact hd
    · exact h
end Go.Proofs.YtnhogbgnnnniaaaDoor.L3
namespace Go.Proofs.YtnhogbgnnnniaaaDoor.L3
open Go.RowKit

theorem cap_val {cv dk zk : Nat} (h : dk = zk - 48) (hz : 48 ≤ zk) : (if (1099511627776 : Int) < 10 * (cv : Int) + ((zk : Int) - 48) then 1099511627776 else 10 * (cv : Int) + ((zk : Int) - 48)) = ((if 10 * cv + dk ≤ 1099511627776 then 10 * cv + dk else 1099511627776 : Nat) : Int) := by
  split <;> split <;> omega
set_option maxHeartbeats 1000000 in
theorem number_any (l : List UInt8) (i : Nat) (hi : i < l.length) (hl : l.length ≤ 8192) (hc : (l[i].toNat : Int) = 45 ∨ isD l[i]) (w : World) : Calls Tryd.prog 67 #[.string (strB l), .int .i64 (i : Int)] w fun e w' => NumPost l i hi w e w' := by
  have hs : (strB l).size = l.length := strB_size l
  have hby := fun wx => byteL l i hi wx
  obtain ⟨g, i1, hgi, hg1⟩ : ∃ (g : Int) (i1 : Nat), ((g = -1 ∧ (l[i].toNat : Int) = 45 ∧ i1 = i + 1) ∨ (g = 1 ∧ isD l[i] ∧ i1 = i)) ∧ (g = 1 ∨ g = -1) := by
    by_cases h : (l[i].toNat : Int) = 45
    · exact ⟨-1, i + 1, .inl ⟨rfl, h, rfl⟩, .inr rfl⟩
    · exact ⟨1, i, .inr ⟨rfl, hc.resolve_left h, rfl⟩, .inl rfl⟩
  have HGI : Hid ((g = -1 ∧ (l[i].toNat : Int) = 45 ∧ i1 = i + 1) ∨ (g = 1 ∧ isD l[i] ∧ i1 = i)) := hgi
  have hcs : (((l[i].toNat : Int) == 45) = true ∧ g = -1 ∧ i1 = i + 1) ∨ (((l[i].toNat : Int) == 45) = false ∧ g = 1 ∧ i1 = i) := by
    rcases hgi with ⟨h1, h2, h3⟩ | ⟨h1, h2, h3⟩
    · exact .inl ⟨by simp [h2], h1, h3⟩
    · refine .inr ⟨?_, h1, h3⟩
      have := h2.1
      simp
      omega
  have hfin : ∀ (k : Nat) (ok : Bool) (x : Int), NumAt l i1 k → digB l k = false → x = g * (capV (valF 0 (seg l i1 k)) : Int) → ok = (digB l i1 && (decide (-2147483648 ≤ x) && (decide (x < 2147483648) && !letB l k))) → NumPost l i hi w (.returned (.tuple #[.int .i64 x, .int .i64 k, .bool ok])) w := by
    intro k ok x hN hd hx hok
    refine ⟨rfl, g, i1, k, HGI.out, hN.le, hN.len, hN.digs, digB_false hd, ?_⟩
    have hfirst : digB l i1 = true ↔ i1 < k := by
      constructor
      · intro h
        have hle := hN.le
        refine Classical.byContradiction fun hn => ?_
        obtain rfl : i1 = k := by omega
        rw [h] at hd
        cases hd
      · intro h
        rcases hN.first with e | e
        · omega
        · exact e
    have hrange : (-2147483648 ≤ x ∧ x < 2147483648) ↔ inR (g * (valF 0 (seg l i1 k) : Int)) := by
      rw [← capV_in hg1, hx]
      unfold inR
      omega
    have hlet : letB l k = false ↔ ∀ h : k < l.length, ¬ isL l[k] := by
      constructor
      · exact letB_false
      · intro h
        cases hb : letB l k with
        | false => rfl
        | true =>
          obtain ⟨h1, h2⟩ := letB_true hb
          exact absurd h2 (h h1)
    by_cases hq : i1 < k ∧ inR (g * (valF 0 (seg l i1 k) : Int)) ∧ ∀ h : k < l.length, ¬ isL l[k]
    · left
      obtain ⟨q1, q2, q3⟩ := hq
      refine ⟨⟨q1, q2, q3⟩, ?_⟩
      have e1 := hfirst.2 q1
      have e2 := hrange.2 q2
      have e3 := hlet.2 q3
      rw [capV_same hg1 q2] at hx
      rw [hok, e1, e3, decide_eq_true e2.1, decide_eq_true e2.2, hx]
      rfl
    · right
      refine ⟨hq, x, ?_⟩
      have : ok = false := by
        cases hb : ok with
        | false => rfl
        | true =>
          rw [hb] at hok
          have hok' := hok.symm
          simp only [Bool.and_eq_true, decide_eq_true_eq, Bool.not_eq_true'] at hok'
          exact absurd ⟨hfirst.1 hok'.1, hrange.1 ⟨hok'.2.1, hok'.2.2.1⟩, hlet.1 hok'.2.2.2⟩ hq
      rw [this]
  have HFIN : Hid (∀ (k : Nat) (ok : Bool) (x : Int), NumAt l i1 k → digB l k = false → x = g * (capV (valF 0 (seg l i1 k)) : Int) → ok = (digB l i1 && (decide (-2147483648 ≤ x) && (decide (x < 2147483648) && !letB l k))) → NumPost l i hi w (.returned (.tuple #[.int .i64 x, .int .i64 k, .bool ok])) w) := hfin
  clear hfin hgi hg1 HGI hc
  have hi1 : i1 ≤ l.length := by omega
  have hN0 : NumAt l i1 i1 := ⟨Nat.le_refl _, hi1, by rw [seg_self]; intro b hb; simp at hb, .inl rfl⟩
  have hV0 : capV (valF 0 (seg l i1 i1)) = 0 := by rw [seg_self]; rfl
  generalize l[i].toNat = z at *
  rcases hcs with ⟨hz, rfl, rfl⟩ | ⟨hz, rfl, hii⟩
  · go_enter Tryd.func67, Tryd.ntmps67
    go_wp2_with fail
    refine (digit_any l (i + 1) _).mono ?_
    rintro e w1 ⟨rfl, rfl⟩
    generalize hok : digB l (i + 1) = ok0 at *
    have HOK : Hid (digB l (i + 1) = ok0) := hok
    clear hok
    go_wp2_with fail
    go_loopw [1, 8] (fun iv vv wr => ∃ k : Nat, iv = .int .i64 k ∧ vv = .int .i64 (capV (valF 0 (seg l (i + 1) k)) : Int) ∧ NumAt l (i + 1) k ∧ wr = w1) (fun iv _ _ => l.length - (intOf iv).toNat)
    case atStart => exact ⟨i + 1, by go_num, by rw [hV0]; rfl, hN0, rfl⟩
    case round =>
      obtain ⟨k, rfl, rfl, hN, rfl⟩ := hrel
      have hcb := capV_le (valF 0 (seg l (i + 1) k))
      have hkl := hN.len
      go_wp2_with fail
      refine (digit_any l k _).mono ?_
      rintro e w2 ⟨rfl, rfl⟩
      cases hd : digB l k with
      | true =>
        obtain ⟨hN2, hk, hv, b1, b2⟩ := hN.next hd
        have hby2 := fun wx => byteL l k hk wx
        have hnew : capV (valF 0 (seg l (i + 1) (k + 1))) = if 10 * capV (valF 0 (seg l (i + 1) k)) + dgt l[k] ≤ 1099511627776 then 10 * capV (valF 0 (seg l (i + 1) k)) + dgt l[k] else 1099511627776 := by rw [hv, capV_step]
        have HNEW : Hid (capV (valF 0 (seg l (i + 1) (k + 1))) = if 10 * capV (valF 0 (seg l (i + 1) k)) + dgt l[k] ≤ 1099511627776 then 10 * capV (valF 0 (seg l (i + 1) k)) + dgt l[k] else 1099511627776) := hnew
        have hdg : dgt l[k] = l[k].toNat - 48 := rfl
        have HN2 : Hid (NumAt l (i + 1) (k + 1)) := hN2
        have hw8 : IntKind.u8.wrap ((l[k].toNat : Int) - 48) = (l[k].toNat : Int) - 48 := by simp [IntKind.wrap, IntKind.bits, IntKind.signed]; omega
        generalize dgt l[k] = dk at *
        generalize l[k].toNat = zk at *
        generalize capV (valF 0 (seg l (i + 1) k)) = cv at *
        clear hnew hv hN2
        go_wp2_with fail
        go_roundw
        case rel => exact ⟨k + 1, by go_num, by rw [HNEW.out, cap_val hdg b1], HN2.out, trivial⟩
        case measure => simp [intOf]; omega
      | false =>
        have hfin := HFIN.out k
        have HN1 : Hid (NumAt l (i + 1) k) := hN
        have HD1 : Hid (digB l k = false) := hd
        generalize capV (valF 0 (seg l (i + 1) k)) = cv at *
        have HF : Hid (∀ (ok : Bool) (x : Int), NumAt l (i + 1) k → digB l k = false → x = -1 * (cv : Int) → ok = (ok0 && (decide (-2147483648 ≤ x) && (decide (x < 2147483648) && !letB l k))) → NumPost l i hi w2 (.returned (.tuple #[.int .i64 x, .int .i64 k, .bool ok])) w2) := hfin
        clear hfin HFIN hN hd
        cases ok0 with
        | false =>
          go_wp2_with fail
          exact bodyPost_ret (v := .tuple #[.int .i64 (-(cv : Int)), .int .i64 k, .bool false]) (by simp [results, Tryd.results67, go_sem]) rfl (HF.out _ _ HN1.out HD1.out (by omega) (by simp))
        | true =>
          by_cases r1 : -2147483648 ≤ (-(cv : Int))
          · by_cases r2 : (-(cv : Int)) < 2147483648
            · have e1 : decide (-2147483648 ≤ (-(cv : Int))) = true := by simpa using r1
              have e2 : decide ((-(cv : Int)) < 2147483648) = true := by simpa using r2
              go_wp2_with fail
              refine (letter_any l k _).mono ?_
              rintro e w3 ⟨rfl, rfl⟩
              go_wp2_with fail
              exact bodyPost_ret (v := .tuple #[.int .i64 (-(cv : Int)), .int .i64 k, .bool (!letB l k)]) (by simp [results, Tryd.results67, go_sem]) rfl (HF.out _ _ HN1.out HD1.out (by omega) (by rw [e1, e2]; simp))
            · exact absurd (by omega) r2
          · have e1 : decide (-2147483648 ≤ (-(cv : Int))) = false := by simpa using r1
            have e1b : decide ((cv : Int) ≤ 2147483648) = false := by simp; omega
            have e1c : decide (cv ≤ 2147483648) = false := by simp; omega
            clear r1
            go_wp2_with fail
            exact bodyPost_ret (v := .tuple #[.int .i64 (-(cv : Int)), .int .i64 k, .bool false]) (by simp [results, Tryd.results67, go_sem]) rfl (HF.out _ _ HN1.out HD1.out (by omega) (by rw [e1]; simp))
  · replace hii := hii.symm
    subst hii
    go_enter Tryd.func67, Tryd.ntmps67
    go_wp2_with fail
    refine (digit_any l i _).mono ?_
    rintro e w1 ⟨rfl, rfl⟩
    generalize hok : digB l i = ok0 at *
    have HOK : Hid (digB l i = ok0) := hok
    clear hok
    go_wp2_with fail
    go_loopw [1, 8] (fun iv vv wr => ∃ k : Nat, iv = .int .i64 k ∧ vv = .int .i64 (capV (valF 0 (seg l i k)) : Int) ∧ NumAt l i k ∧ wr = w1) (fun iv _ _ => l.length - (intOf iv).toNat)
    case atStart => exact ⟨i, rfl, by rw [hV0]; rfl, hN0, rfl⟩
    case round =>
      obtain ⟨k, rfl, rfl, hN, rfl⟩ := hrel
      have hcb := capV_le (valF 0 (seg l i k))
      have hkl := hN.len
      go_wp2_with fail
      refine (digit_any l k _).mono ?_
      rintro e w2 ⟨rfl, rfl⟩
      cases hd : digB l k with
      | true =>
        obtain ⟨hN2, hk, hv, b1, b2⟩ := hN.next hd
        have hby2 := fun wx => byteL l k hk wx
        have hnew : capV (valF 0 (seg l i (k + 1))) = if 10 * capV (valF 0 (seg l i k)) + dgt l[k] ≤ 1099511627776 then 10 * capV (valF 0 (seg l i k)) + dgt l[k] else 1099511627776 := by rw [hv, capV_step]
        have HNEW : Hid (capV (valF 0 (seg l i (k + 1))) = if 10 * capV (valF 0 (seg l i k)) + dgt l[k] ≤ 1099511627776 then 10 * capV (valF 0 (seg l i k)) + dgt l[k] else 1099511627776) := hnew
        have hdg : dgt l[k] = l[k].toNat - 48 := rfl
        have HN2 : Hid (NumAt l i (k + 1)) := hN2
        have hw8 : IntKind.u8.wrap ((l[k].toNat : Int) - 48) = (l[k].toNat : Int) - 48 := by simp [IntKind.wrap, IntKind.bits, IntKind.signed]; omega
        generalize dgt l[k] = dk at *
        generalize l[k].toNat = zk at *
        generalize capV (valF 0 (seg l i k)) = cv at *
        clear hnew hv hN2
        go_wp2_with fail
        go_roundw
        case rel => exact ⟨k + 1, by go_num, by rw [HNEW.out, cap_val hdg b1], HN2.out, trivial⟩
        case measure => simp [intOf]; omega
      | false =>
        have hfin := HFIN.out k
        have HN1 : Hid (NumAt l i k) := hN
        have HD1 : Hid (digB l k = false) := hd
        generalize capV (valF 0 (seg l i k)) = cv at *
        have HF : Hid (∀ (ok : Bool) (x : Int), NumAt l i k → digB l k = false → x = 1 * (cv : Int) → ok = (ok0 && (decide (-2147483648 ≤ x) && (decide (x < 2147483648) && !letB l k))) → NumPost l i hi w2 (.returned (.tuple #[.int .i64 x, .int .i64 k, .bool ok])) w2) := hfin
        clear hfin HFIN hN hd
        cases ok0 with
        | false =>
          go_wp2_with fail
          exact bodyPost_ret (v := .tuple #[.int .i64 (cv : Int), .int .i64 k, .bool false]) (by simp [results, Tryd.results67, go_sem]) rfl (HF.out _ _ HN1.out HD1.out (by omega) (by simp))
        | true =>
          by_cases r1 : -2147483648 ≤ (cv : Int)
          · by_cases r2 : (cv : Int) < 2147483648
            · have e1 : decide (-2147483648 ≤ (cv : Int)) = true := by simp
              have e2 : decide ((cv : Int) < 2147483648) = true := by simpa using r2
              go_wp2_with fail
              refine (letter_any l k _).mono ?_
              rintro e w3 ⟨rfl, rfl⟩
              go_wp2_with fail
              exact bodyPost_ret (v := .tuple #[.int .i64 (cv : Int), .int .i64 k, .bool (!letB l k)]) (by simp [results, Tryd.results67, go_sem]) rfl (HF.out _ _ HN1.out HD1.out (by omega) (by rw [e1, e2]; simp))
            · have e2 : decide ((cv : Int) < 2147483648) = false := by simpa using r2
              have e2c : decide (cv < 2147483648) = false := by simp; omega
              clear r2
              go_wp2_with fail
              exact bodyPost_ret (v := .tuple #[.int .i64 (cv : Int), .int .i64 k, .bool false]) (by simp [results, Tryd.results67, go_sem]) rfl (HF.out _ _ HN1.out HD1.out (by omega) (by rw [e2]; simp))
          · exact absurd (by omega) r1
end Go.Proofs.YtnhogbgnnnniaaaDoor.L3
namespace Go.Proofs.YtnhogbgnnnniaaaDoor.L3
open Go.RowKit

theorem infoT : (Tryd.prog.info? 114).map (fun i => (i.zero, i.size, i.bytes)) = some (some (.agg #[.int .i64 0, .string ⟨#[]⟩, .int .i64 0, .int .i64 0]), 4, 40) := by kernel_rfl
theorem own_slT' {w : World} {B : Nat} {e : TypeId} {v : Value} {T : List Tk} (h : w.ownsRow B e 4 v T.length (cellsT T)) : SlT w v T := by
  rcases h.2 with ⟨rfl, h0⟩ | ⟨g, cap, cur, rfl, _⟩
  · exact ⟨none, 0, by rw [h0], fun k hk => by omega⟩
  · refine ⟨some ⟨g, 0, none⟩, cap, rfl, fun k hk => ⟨g, 0, rfl, ?_⟩⟩
    have hj : ∀ j, j < 4 → w.cell? ⟨g, 0 + k * 4 + j, none⟩ = (tkC T[k])[j]? := fun j hj => by
      rw [Nat.zero_add, h.cellAt _ (by omega), cellsT_at hk j hj]
    exact ⟨by simpa [tkC] using hj 0 (by omega), by simpa [tkC] using hj 1 (by omega), by simpa [tkC] using hj 2 (by omega), by simpa [tkC] using hj 3 (by omega)⟩
theorem seg_slice (l : List UInt8) (a b : Nat) (h : a ≤ b) (hb : b ≤ l.length) (w : World) : (Instr.slice 9 (.string (strB l)) (some (.int .i64 (a : Int))) (some (.int .i64 (b : Int))) none).run Tryd.prog w = .ok (.string (strB (seg l a b))) w := by
  have hs : (strB l).size = l.length := strB_size l
  rw [run_slice_string (P := Tryd.prog) w 9 (strB l) .i64 .i64 (a : Int) (b : Int) Tryd.underlying9 (by omega) (by omega) (by omega), Int.toNat_natCast, Int.toNat_natCast, strB_seg]
/-- the row of tokens under way -/
structure TRow (w wr : World) (lv : Value) (T : List Tk) : Prop where
  low : Below w.heap.size w wr
  row : wr.ownsRow w.heap.size 114 4 lv T.length (cellsT T)
theorem TRow.push {w wr w' : World} {lv : Value} {T : List Tk} {t : Tk} {g cap : Nat} (h : TRow w wr lv T) (o : Obj) (hg : (wr.alloc o).grownBy w' lv.ownBlock)
    (ho : w'.ownsRow w.heap.size 114 4 (.slice (some ⟨g, 0, none⟩) (T.length + 1) cap) (T.length + 1) (cellsT T ++ tkC t)) : TRow w w' (.slice (some ⟨g, 0, none⟩) (T.length + 1) cap) (T ++ [t]) := by
  have ha := h.low.alloc h.low.size o
  refine ⟨ha.trans ⟨hg.os, hg.tape, hg.output, hg.size, fun k hk => hg.block k (by have := ha.size; omega) fun e => ?_⟩, ?_⟩
  · have := (h.row.lt k e.symm).1
    omega
  · rw [List.length_append, cellsT_snoc]
    exact ho
def RLexPost (l : List UInt8) (w : World) (e : Ending) (w' : World) : Prop := LexPost l w e w'
theorem rpost {l : List UInt8} {w w' : World} {T : List Tk} {x y : Int} {tv : Value} (h : lexF l = (T, x, y)) (hs : SlT w' tv T) (hb : Below w.heap.size w w') : LexPost l w (.returned (.tuple #[tv, .int .i64 x, .int .i64 y])) w' := by
  have hs' := hs
  obtain ⟨ta, tc, rfl, -⟩ := hs'
  unfold LexPost
  rw [h]
  exact ⟨ta, tc, rfl, hs, hb⟩
/-- the classes of a byte, as the reference tells them -/
theorem byte_cases (z : Nat) : z = 32 ∨ z = 9 ∨ z = 13 ∨ z = 35 ∨ z = 10 ∨ z = 45 ∨ z = 58 ∨ z = 44 ∨
    (((z : Int) == 32) = false ∧ ((z : Int) == 9) = false ∧ ((z : Int) == 13) = false ∧ ((z : Int) == 35) = false ∧ ((z : Int) == 10) = false ∧ ((z : Int) == 45) = false ∧ ((z : Int) == 58) = false ∧ ((z : Int) == 44) = false) := by
  simp
  omega
set_option maxHeartbeats 4000000 in
set_option maxRecDepth 4000 in
theorem RAll_any (l : List UInt8) (w : World) : Calls Tryd.prog 30 #[.string (strB l)] w fun e w' => LexPost l w e w' := by
  obtain ⟨i0, hi0, hz0, hz1, hz2⟩ := info_parts infoT
  have hs : (strB l).size = l.length := strB_size l
  by_cases h8 : l.length ≤ 8192
  · have hd8 : decide ((8192 : Int) < (l.length : Int)) = false := by simp; omega
    go_enter Tryd.func30, Tryd.ntmps30
    go_wp2_with fail
    go_loopw [5, 6, 7, 8] (fun lv lnv hv iv wr => ∃ (i : Nat) (T : List Tk) (ln : Int), i ≤ l.length ∧ iv = .int .i64 i ∧ lnv = .int .i64 ln ∧ hv = .bool (openT T) ∧ TRow w wr lv T ∧ RefAt l i T ln ∧ T.length ≤ i ∧ 1 ≤ ln ∧ ln ≤ i + 1) (fun _ _ _ iv _ => l.length - (intOf iv).toNat)
    case atStart => exact ⟨0, [], 1, by omega, rfl, rfl, rfl, ⟨Below.refl _ _, World.ownsRow_nil _ _ _ _⟩, ref0 l, by simp, by omega, by simp⟩
    case round =>
      obtain ⟨i, T, ln, hi, rfl, rfl, rfl, hT, hA, hTl, hl1, hl2⟩ := hrel
      have HA : Hid (RefAt l i T ln) := hA
      clear hA
      by_cases hlt : i < l.length
      · have hby := fun wx => byteL l i hlt wx
        rcases byte_cases l[i].toNat with hz | hz | hz | hz | hz | hz | hz | hz | hz
        · have HA2 : Hid (RefAt l (i + 1) T ln) := HA.out.blank hlt (by rw [hz]; omega)
          simp only [hz] at hby
          clear hz
          go_wp2_with fail
          go_roundw
          case rel => exact ⟨i + 1, T, ln, by omega, by go_num, rfl, rfl, hT, HA2.out, by omega, by omega, by omega⟩
          case measure => simp [intOf]; omega
        · have HA2 : Hid (RefAt l (i + 1) T ln) := HA.out.blank hlt (by rw [hz]; omega)
          simp only [hz] at hby
          clear hz
          go_wp2_with fail
          go_roundw
          case rel => exact ⟨i + 1, T, ln, by omega, by go_num, rfl, rfl, hT, HA2.out, by omega, by omega, by omega⟩
          case measure => simp [intOf]; omega
        · have HA2 : Hid (RefAt l (i + 1) T ln) := HA.out.blank hlt (by rw [hz]; omega)
          simp only [hz] at hby
          clear hz
          go_wp2_with fail
          go_roundw
          case rel => exact ⟨i + 1, T, ln, by omega, by go_num, rfl, rfl, hT, HA2.out, by omega, by omega, by omega⟩
          case measure => simp [intOf]; omega
        · have HZ : Hid (l[i].toNat = 35) := hz
          simp only [hz] at hby
          clear hz
          go_wp2_with fail
          go_loopw [8] (fun jv wx => ∃ j : Nat, i ≤ j ∧ j ≤ l.length ∧ jv = .int .i64 j ∧ (j = i ∨ (i + 1 ≤ j ∧ ∀ b ∈ seg l (i + 1) j, b ≠ 10)) ∧ wx = wr) (fun jv _ => l.length - (intOf jv).toNat)
          case atStart => exact ⟨i, by omega, by omega, rfl, .inl rfl, rfl⟩
          case round =>
            obtain ⟨j, hij, hjl, rfl, hjj, rfl⟩ := hrel
            by_cases hgo : ∃ h : j < l.length, l[j] ≠ 10
            · obtain ⟨hj, h10⟩ := hgo
              have hbj := fun wx => byteL l j hj wx
              have hz10 : ((l[j].toNat : Int) != 10) = true := by
                have := ten_nat h10
                simp
                omega
              have HJ : Hid (i + 1 ≤ j + 1 ∧ ∀ b ∈ seg l (i + 1) (j + 1), b ≠ 10) := by
                rcases hjj with rfl | ⟨h1, h2⟩
                · exact ⟨Nat.le_refl _, by rw [seg_self]; intro b hb; simp at hb⟩
                · refine ⟨by omega, ?_⟩
                  rw [seg_succ l h1 hj]
                  intro b hb
                  simp at hb
                  rcases hb with hb | rfl
                  · exact h2 b hb
                  · exact h10
              clear hby hjj h10
              generalize l[j].toNat = zj at *
              go_wp2_with fail
              go_roundw
              case rel => exact ⟨j + 1, by omega, by omega, by go_num, .inr HJ.out, trivial⟩
              case measure => simp [intOf]; omega
            · have hend : ∀ h : j < l.length, l[j] = 10 := fun h => Classical.byContradiction fun hn => hgo ⟨h, hn⟩
              have hj2 : i + 1 ≤ j ∧ ∀ b ∈ seg l (i + 1) j, b ≠ 10 := by
                rcases hjj with rfl | h
                · have e := hend hlt
                  have hz := HZ.out
                  rw [e] at hz
                  exact absurd hz (by decide)
                · exact h
              have HA2 : Hid (RefAt l j T ln) := HA.out.comment hlt (by rw [HZ.out]; rfl) hj2.1 hj2.2 hend
              have hij2 : i < j := hj2.1
              have hgo2 : (j < l.length ∧ ∃ bz : Nat, (∀ wx, (Instr.index 9 (.string (strB l)) (.int .i64 (j : Int))).run Tryd.prog wx = .ok (.int .u8 (bz : Int)) wx) ∧ ((bz : Int) != 10) = false) ∨ j = l.length := by
                by_cases hj : j < l.length
                · refine .inl ⟨hj, l[j].toNat, fun wx => byteL l j hj wx, ?_⟩
                  rw [hend hj]
                  rfl
                · exact .inr (by omega)
              clear hby hjj hgo hend hj2 HZ HA
              rcases hgo2 with ⟨hj, bz, hbj, hbz⟩ | rfl
              all_goals
                go_wp2_with fail
                go_roundw
                case rel => exact ⟨_, T, ln, by omega, rfl, rfl, rfl, hT, HA2.out, by omega, by omega, by omega⟩
                case measure => simp [intOf]; omega
        · have hten : l[i] = 10 := UInt8.toNat.inj (by simpa using hz)
          have hA2 := HA.out.ten hlt hten
          simp only [hz] at hby
          clear hz hten HA
          cases ho : openT T with
          | true =>
            rw [ho, if_pos rfl] at hA2
            have HA2 : Hid (RefAt l (i + 1) (T ++ [⟨4, [], 0, ln⟩]) (ln + 1)) := hA2
            clear hA2 ho
            go_wp2_with (at_builtin; refine wpList_append_lies _ rfl (.tmp 63) (.tmp 66) 55 rfl w.heap.size 114 i0 (.agg #[.int .i64 0, .string ⟨#[]⟩, .int .i64 0, .int .i64 0]) 4 40 Tryd.underlying55 hi0 hz0 hz1 hz2 rfl (by decide) u5 T.length (cellsT T) rfl (hT.row.alloc _) ⟨wr.heap.size, 0, none⟩ 1 1 (tkC ⟨4, [], 0, ln⟩) ?c0 rfl (tkC_new _ ⟨4, [], 0, ln⟩ _) (tkC_one _) (by omega) ?c2 ?c3 ?c4 _ rfl ?_)
            case c0 => simp [Act.eval]
            case c2 => unfold maxLen; omega
            case c3 => omega
            case c4 => have := hT.low.size; simp; omega
            intro g7 cap7 w7 hown7 hgrow7 hat7 hlt7
            have hT2 := hT.push (t := ⟨4, [], 0, ln⟩) _ hgrow7 hown7
            clear hown7 hgrow7 hat7 hlt7
            go_wp2_with fail
            go_roundw
            case rel => exact ⟨i + 1, T ++ [⟨4, [], 0, ln⟩], ln + 1, by omega, by go_num, by go_num, by rw [open_snoc]; rfl, hT2, HA2.out, by simp; omega, by omega, by omega⟩
            case measure => simp [intOf]; omega
          | false =>
            rw [ho] at hA2
            have HOP : Hid (openT T = false) := ho
            have HA2 : Hid (RefAt l (i + 1) T (ln + 1)) := hA2
            clear hA2 ho
            go_wp2_with fail
            go_roundw
            case rel => exact ⟨i + 1, T, ln + 1, by omega, by go_num, by go_num, by rw [HOP.out], hT, HA2.out, by omega, by omega, by omega⟩
            case measure => simp [intOf]; omega
        · have HC : Hid ((l[i].toNat : Int) = 45 ∨ isD l[i]) := .inl (by rw [hz]; rfl)
          have hlb : letB l i = false := by rw [letB_in hlt]; simp [isL, hz]
          have hdb : digB l i = false := by rw [digB_in hlt]; simp [isD, hz]
          simp only [hz] at hby
          clear hz
          go_wp2_with fail
          refine (letter_any l i _).mono ?_
          rintro e w1 ⟨rfl, rfl⟩
          rw [hlb]
          go_wp2_with fail
          refine (digit_any l i _).mono ?_
          rintro e w1 ⟨rfl, rfl⟩
          rw [hdb]
          go_wp2_with fail
          refine (number_any l i hlt h8 HC.out _).mono ?_
          rintro e w2 ⟨rfl, g, i1, j, hgi, hij, hjl, hds, hnd, hout⟩
          have hnum := HA.out.num h8 hlt hgi hij hjl hds hnd
          have hi1 : i < j ∨ ¬ (i1 < j) := by rcases hgi with ⟨-, -, rfl⟩ | ⟨-, -, rfl⟩ <;> omega
          rcases hout with ⟨hq, rfl⟩ | ⟨hq, x, rfl⟩
          · have HA2 := hnum.2 hq
            have hlt2 : i < j := hi1.resolve_right (fun h => h hq.1)
            generalize g * (valF 0 (seg l i1 j) : Int) = V at *
            have HA3 : Hid (RefAt l j (T ++ [⟨2, [], V, ln⟩]) ln) := HA2
            clear hnum hq hgi hds hnd HA2 HA hi1
            go_wp2_with (at_builtin; refine wpList_append_lies _ rfl (.tmp 115) (.tmp 119) 55 rfl w.heap.size 114 i0 (.agg #[.int .i64 0, .string ⟨#[]⟩, .int .i64 0, .int .i64 0]) 4 40 Tryd.underlying55 hi0 hz0 hz1 hz2 rfl (by decide) u5 T.length (cellsT T) rfl (hT.row.alloc _) ⟨w2.heap.size, 0, none⟩ 1 1 (tkC ⟨2, [], V, ln⟩) ?c0 rfl (tkC_new _ ⟨2, [], V, ln⟩ _) (tkC_one _) (by omega) ?c2 ?c3 ?c4 _ rfl ?_)
            case c0 => simp [Act.eval]
            case c2 => unfold maxLen; omega
            case c3 => omega
            case c4 => have := hT.low.size; simp; omega
            intro g7 cap7 w7 hown7 hgrow7 hat7 hlt7
            have hT2 := hT.push (t := ⟨2, [], V, ln⟩) _ hgrow7 hown7
            clear hown7 hgrow7 hat7 hlt7
            go_wp2_with fail
            go_roundw
            case rel => exact ⟨j, T ++ [⟨2, [], V, ln⟩], ln, by omega, rfl, rfl, by rw [open_snoc]; rfl, hT2, HA3.out, by simp; omega, by omega, by omega⟩
            case measure => simp [intOf]; omega
          · have HE := rpost (w := w) (hnum.1 hq) (SlT.nil w2) hT.low
            have HE2 : Hid (LexPost l w _ w2) := HE
            clear hnum hq hgi hds hnd HE HA
            go_wp2_with fail
            exact bodyPost_ret (v := .tuple #[.slice none 0 0, .int .i64 ln, .int .i64 3]) (by simp [results, Tryd.results30, go_sem]) rfl HE2.out
        · have HA2 : Hid (RefAt l (i + 1) (T ++ [⟨3, seg l i (i + 1), 0, ln⟩]) ln) := HA.out.sign hlt (by rw [hz]; omega)
          have hlb : letB l i = false := by rw [letB_in hlt]; simp [isL, hz]
          have hdb : digB l i = false := by rw [digB_in hlt]; simp [isD, hz]
          have hsl := fun wx => seg_slice l i (i + 1) (by omega) (by omega) wx
          rw [show ((i + 1 : Nat) : Int) = (i : Int) + 1 by omega] at hsl
          generalize seg l i (i + 1) = sg at *
          simp only [hz] at hby
          clear hz HA
          go_wp2_with fail
          refine (letter_any l i _).mono ?_
          rintro e w1 ⟨rfl, rfl⟩
          rw [hlb]
          go_wp2_with fail
          refine (digit_any l i _).mono ?_
          rintro e w1 ⟨rfl, rfl⟩
          rw [hdb]
          go_wp2_with (at_builtin; refine wpList_append_lies _ rfl (.tmp 133) (.tmp 141) 55 rfl w.heap.size 114 i0 (.agg #[.int .i64 0, .string ⟨#[]⟩, .int .i64 0, .int .i64 0]) 4 40 Tryd.underlying55 hi0 hz0 hz1 hz2 rfl (by decide) u5 T.length (cellsT T) rfl (hT.row.alloc _) ⟨w1.heap.size, 0, none⟩ 1 1 (tkC ⟨3, sg, 0, ln⟩) ?c0 rfl (tkC_new _ ⟨3, sg, 0, ln⟩ _) (tkC_one _) (by omega) ?c2 ?c3 ?c4 _ rfl ?_)
          case c0 => simp [Act.eval]
          case c2 => unfold maxLen; omega
          case c3 => omega
          case c4 => have := hT.low.size; simp; omega
          intro g7 cap7 w7 hown7 hgrow7 hat7 hlt7
          have hT2 := hT.push (t := ⟨3, sg, 0, ln⟩) _ hgrow7 hown7
          clear hown7 hgrow7 hat7 hlt7
          go_wp2_with fail
          go_roundw
          case rel => exact ⟨i + 1, T ++ [⟨3, sg, 0, ln⟩], ln, by omega, by go_num, rfl, by rw [open_snoc]; rfl, hT2, HA2.out, by simp; omega, by omega, by omega⟩
          case measure => simp [intOf]; omega
        · have HA2 : Hid (RefAt l (i + 1) (T ++ [⟨3, seg l i (i + 1), 0, ln⟩]) ln) := HA.out.sign hlt (by rw [hz]; omega)
          have hlb : letB l i = false := by rw [letB_in hlt]; simp [isL, hz]
          have hdb : digB l i = false := by rw [digB_in hlt]; simp [isD, hz]
          have hsl := fun wx => seg_slice l i (i + 1) (by omega) (by omega) wx
          rw [show ((i + 1 : Nat) : Int) = (i : Int) + 1 by omega] at hsl
          generalize seg l i (i + 1) = sg at *
          simp only [hz] at hby
          clear hz HA
          go_wp2_with fail
          refine (letter_any l i _).mono ?_
          rintro e w1 ⟨rfl, rfl⟩
          rw [hlb]
          go_wp2_with fail
          refine (digit_any l i _).mono ?_
          rintro e w1 ⟨rfl, rfl⟩
          rw [hdb]
          go_wp2_with (at_builtin; refine wpList_append_lies _ rfl (.tmp 133) (.tmp 141) 55 rfl w.heap.size 114 i0 (.agg #[.int .i64 0, .string ⟨#[]⟩, .int .i64 0, .int .i64 0]) 4 40 Tryd.underlying55 hi0 hz0 hz1 hz2 rfl (by decide) u5 T.length (cellsT T) rfl (hT.row.alloc _) ⟨w1.heap.size, 0, none⟩ 1 1 (tkC ⟨3, sg, 0, ln⟩) ?c0 rfl (tkC_new _ ⟨3, sg, 0, ln⟩ _) (tkC_one _) (by omega) ?c2 ?c3 ?c4 _ rfl ?_)
          case c0 => simp [Act.eval]
          case c2 => unfold maxLen; omega
          case c3 => omega
          case c4 => have := hT.low.size; simp; omega
          intro g7 cap7 w7 hown7 hgrow7 hat7 hlt7
          have hT2 := hT.push (t := ⟨3, sg, 0, ln⟩) _ hgrow7 hown7
          clear hown7 hgrow7 hat7 hlt7
          go_wp2_with fail
          go_roundw
          case rel => exact ⟨i + 1, T ++ [⟨3, sg, 0, ln⟩], ln, by omega, by go_num, rfl, by rw [open_snoc]; rfl, hT2, HA2.out, by simp; omega, by omega, by omega⟩
          case measure => simp [intOf]; omega
        · obtain ⟨t1, t2, t3, t4, t5, t6, t7, t8⟩ := hz
          cases hlb : letB l i with
          | true =>
            have HLB : Hid (letB l i = true) := hlb
            clear hlb
            obtain ⟨_, hL⟩ := letB_true HLB.out
            have HL : Hid (isL l[i]) := hL
            clear hL
            generalize l[i].toNat = z at hby t1 t2 t3 t4 t5 t6 t7 t8
            go_wp2_with fail
            refine (letter_any l i _).mono ?_
            rintro e w1 ⟨rfl, rfl⟩
            rw [HLB.out]
            go_wp2_with fail
            clear hby t1 t2 t3 t4 t5 t6 t7 t8
            go_loopw [8] (fun jv wx => ∃ j : Nat, i ≤ j ∧ j ≤ l.length ∧ jv = .int .i64 j ∧ (∀ b ∈ seg l i j, isL b) ∧ wx = w1) (fun jv _ => l.length - (intOf jv).toNat)
            case atStart => exact ⟨i, by omega, by omega, rfl, by rw [seg_self]; intro b hb; simp at hb, rfl⟩
            case round =>
              obtain ⟨j, hij, hjl, rfl, hjj, rfl⟩ := hrel
              have HJ : Hid (∀ b ∈ seg l i j, isL b) := hjj
              clear hjj
              go_wp2_with fail
              refine (letter_any l j _).mono ?_
              rintro e w2 ⟨rfl, rfl⟩
              cases hlj : letB l j with
              | true =>
                obtain ⟨hj, hLj⟩ := letB_true hlj
                have HJ2 : Hid (∀ b ∈ seg l i (j + 1), isL b) := by
                  show ∀ b ∈ seg l i (j + 1), isL b
                  rw [seg_succ l hij hj]
                  intro b hb
                  simp at hb
                  rcases hb with hb | rfl
                  · exact HJ.out b hb
                  · exact hLj
                clear hLj HJ hlj
                go_wp2_with fail
                go_roundw
                case rel => exact ⟨j + 1, by omega, by omega, by go_num, HJ2.out, trivial⟩
                case measure => simp [intOf]; omega
              | false =>
                have hij2 : i < j := by
                  refine Classical.byContradiction fun hn => ?_
                  obtain rfl : i = j := by omega
                  rw [HLB.out] at hlj
                  cases hlj
                have hw := HA.out.word h8 hlt HL.out hij2 HJ.out hjl
                have hnl := letB_false hlj
                have hsl := fun wx => seg_slice l i j hij hjl wx
                clear HJ HA HLB HL hlj
                go_wp2_with fail
                refine (digit_any l j _).mono ?_
                rintro e w3 ⟨rfl, rfl⟩
                cases hdj : digB l j with
                | true =>
                  have HE := rpost (w := w) (hw.1 (digB_true hdj)) (SlT.nil w3) hT.low
                  have HE2 : Hid (LexPost l w _ w3) := HE
                  clear hw hnl HE hdj hsl
                  go_wp2_with fail
                  exact bodyPost_ret (v := .tuple #[.slice none 0 0, .int .i64 ln, .int .i64 3]) (by simp [results, Tryd.results30, go_sem]) rfl HE2.out
                | false =>
                  have hA2 := hw.2 fun h => ⟨hnl h, digB_false hdj h⟩
                  generalize seg l i j = sg at *
                  have HA2 : Hid (RefAt l j (T ++ [⟨1, sg, 0, ln⟩]) ln) := hA2
                  clear hw hnl hA2 hdj
                  go_wp2_with (at_builtin; refine wpList_append_lies _ rfl (.tmp 86) (.tmp 93) 55 rfl w.heap.size 114 i0 (.agg #[.int .i64 0, .string ⟨#[]⟩, .int .i64 0, .int .i64 0]) 4 40 Tryd.underlying55 hi0 hz0 hz1 hz2 rfl (by decide) u5 T.length (cellsT T) rfl (hT.row.alloc _) ⟨w3.heap.size, 0, none⟩ 1 1 (tkC ⟨1, sg, 0, ln⟩) ?c0 rfl (tkC_new _ ⟨1, sg, 0, ln⟩ _) (tkC_one _) (by omega) ?c2 ?c3 ?c4 _ rfl ?_)
                  case c0 => simp [Act.eval]
                  case c2 => unfold maxLen; omega
                  case c3 => omega
                  case c4 => have := hT.low.size; simp; omega
                  intro g7 cap7 w7 hown7 hgrow7 hat7 hlt7
                  have hT2 := hT.push (t := ⟨1, sg, 0, ln⟩) _ hgrow7 hown7
                  clear hown7 hgrow7 hat7 hlt7
                  go_wp2_with fail
                  go_roundw
                  case rel => exact ⟨j, T ++ [⟨1, sg, 0, ln⟩], ln, by omega, rfl, rfl, by rw [open_snoc]; rfl, hT2, HA2.out, by simp; omega, by omega, by omega⟩
                  case measure => simp [intOf]; omega
          | false =>
            have HLB : Hid (letB l i = false) := hlb
            clear hlb
            cases hdb : digB l i with
            | true =>
              have HDB : Hid (digB l i = true) := hdb
              obtain ⟨_, hDD⟩ := digB_true hdb
              have HC : Hid ((l[i].toNat : Int) = 45 ∨ isD l[i]) := .inr hDD
              clear hdb hDD
              generalize l[i].toNat = z at hby t1 t2 t3 t4 t5 t6 t7 t8
              go_wp2_with fail
              refine (letter_any l i _).mono ?_
              rintro e w1 ⟨rfl, rfl⟩
              rw [HLB.out]
              go_wp2_with fail
              refine (digit_any l i _).mono ?_
              rintro e w1 ⟨rfl, rfl⟩
              rw [HDB.out]
              clear HLB HDB
              go_wp2_with fail
              refine (number_any l i hlt h8 HC.out _).mono ?_
              rintro e w2 ⟨rfl, g, i1, j, hgi, hij, hjl, hds, hnd, hout⟩
              have hnum := HA.out.num h8 hlt hgi hij hjl hds hnd
              have hi1 : i < j ∨ ¬ (i1 < j) := by rcases hgi with ⟨-, -, rfl⟩ | ⟨-, -, rfl⟩ <;> omega
              rcases hout with ⟨hq, rfl⟩ | ⟨hq, x, rfl⟩
              · have HA2 := hnum.2 hq
                have hlt2 : i < j := hi1.resolve_right (fun h => h hq.1)
                generalize g * (valF 0 (seg l i1 j) : Int) = V at *
                have HA3 : Hid (RefAt l j (T ++ [⟨2, [], V, ln⟩]) ln) := HA2
                clear hnum hq hgi hds hnd HA2 HA hi1
                go_wp2_with (at_builtin; refine wpList_append_lies _ rfl (.tmp 115) (.tmp 119) 55 rfl w.heap.size 114 i0 (.agg #[.int .i64 0, .string ⟨#[]⟩, .int .i64 0, .int .i64 0]) 4 40 Tryd.underlying55 hi0 hz0 hz1 hz2 rfl (by decide) u5 T.length (cellsT T) rfl (hT.row.alloc _) ⟨w2.heap.size, 0, none⟩ 1 1 (tkC ⟨2, [], V, ln⟩) ?c0 rfl (tkC_new _ ⟨2, [], V, ln⟩ _) (tkC_one _) (by omega) ?c2 ?c3 ?c4 _ rfl ?_)
                case c0 => simp [Act.eval]
                case c2 => unfold maxLen; omega
                case c3 => omega
                case c4 => have := hT.low.size; simp; omega
                intro g7 cap7 w7 hown7 hgrow7 hat7 hlt7
                have hT2 := hT.push (t := ⟨2, [], V, ln⟩) _ hgrow7 hown7
                clear hown7 hgrow7 hat7 hlt7
                go_wp2_with fail
                go_roundw
                case rel => exact ⟨j, T ++ [⟨2, [], V, ln⟩], ln, by omega, rfl, rfl, by rw [open_snoc]; rfl, hT2, HA3.out, by simp; omega, by omega, by omega⟩
                case measure => simp [intOf]; omega
              · have HE := rpost (w := w) (hnum.1 hq) (SlT.nil w2) hT.low
                have HE2 : Hid (LexPost l w _ w2) := HE
                clear hnum hq hgi hds hnd HE HA
                go_wp2_with fail
                exact bodyPost_ret (v := .tuple #[.slice none 0 0, .int .i64 ln, .int .i64 3]) (by simp [results, Tryd.results30, go_sem]) rfl HE2.out
            | false =>
              have HDB : Hid (digB l i = false) := hdb
              have hE : lexF l = ([], ln, 3) := HA.out.wrong h8 hlt (fun e => by rw [e] at t5; exact absurd t5 (by decide)) (by simp at t1 t2 t3; omega) (by simp at t4; omega) (by simp at t6; omega) (by simp at t7 t8; omega) (letB_false HLB.out hlt) (digB_false hdb hlt)
              have HE2 : Hid (lexF l = ([], ln, 3)) := hE
              clear hdb hE
              generalize l[i].toNat = z at hby t1 t2 t3 t4 t5 t6 t7 t8
              go_wp2_with fail
              refine (letter_any l i _).mono ?_
              rintro e w1 ⟨rfl, rfl⟩
              rw [HLB.out]
              go_wp2_with fail
              refine (digit_any l i _).mono ?_
              rintro e w1 ⟨rfl, rfl⟩
              rw [HDB.out]
              have HE3 : Hid (LexPost l w _ w1) := rpost (w := w) HE2.out (SlT.nil w1) hT.low
              go_wp2_with fail
              exact bodyPost_ret (v := .tuple #[.slice none 0 0, .int .i64 ln, .int .i64 3]) (by simp [results, Tryd.results30, go_sem]) rfl HE3.out
      · have hD := HA.out.done h8 hlt
        clear HA
        cases ho : openT T with
        | true =>
          rw [ho, if_pos rfl] at hD
          have HD : Hid (lexF l = (T ++ [⟨4, [], 0, ln⟩], 0, 0)) := hD
          clear hD ho
          go_wp2_with (at_builtin; refine wpList_append_lies _ rfl (.tmp 146) (.tmp 149) 55 rfl w.heap.size 114 i0 (.agg #[.int .i64 0, .string ⟨#[]⟩, .int .i64 0, .int .i64 0]) 4 40 Tryd.underlying55 hi0 hz0 hz1 hz2 rfl (by decide) u5 T.length (cellsT T) rfl (hT.row.alloc _) ⟨wr.heap.size, 0, none⟩ 1 1 (tkC ⟨4, [], 0, ln⟩) ?c0 rfl (tkC_new _ ⟨4, [], 0, ln⟩ _) (tkC_one _) (by omega) ?c2 ?c3 ?c4 _ rfl ?_)
          case c0 => simp [Act.eval]
          case c2 => unfold maxLen; omega
          case c3 => omega
          case c4 => have := hT.low.size; simp; omega
          intro g7 cap7 w7 hown7 hgrow7 hat7 hlt7
          have hT2 := hT.push (t := ⟨4, [], 0, ln⟩) _ hgrow7 hown7
          clear hown7 hgrow7 hat7 hlt7
          have HE2 : Hid (LexPost l w _ w7) := rpost (w := w) HD.out (own_slT' hT2.row) hT2.low
          clear hT2 HD
          go_wp2_with fail
          exact bodyPost_ret (v := .tuple #[.slice (some ⟨g7, 0, none⟩) (T.length + 1) cap7, .int .i64 0, .int .i64 0]) (by simp [results, Tryd.results30, go_sem]) rfl HE2.out
        | false =>
          rw [ho] at hD
          have HE2 : Hid (LexPost l w _ wr) := rpost (w := w) hD (own_slT' hT.row) hT.low
          clear hD ho
          go_wp2_with fail
          exact bodyPost_ret (v := .tuple #[u5, .int .i64 0, .int .i64 0]) (by simp [results, Tryd.results30, go_sem]) rfl HE2.out
  · have hd8 : decide ((8192 : Int) < (l.length : Int)) = true := by simp; omega
    have hE : lexF l = ([], 0, 2) := by
      unfold lexF
      rw [if_pos (by omega)]
    have HE2 : Hid (LexPost l w _ w) := rpost (w := w) hE (SlT.nil w) (Below.refl _ _)
    clear h8 hE
    go_enter Tryd.func30, Tryd.ntmps30
    go_wp2_with fail
    exact bodyPost_ret (v := .tuple #[.slice none 0 0, .int .i64 0, .int .i64 2]) (by simp [results, Tryd.results30, go_sem]) rfl HE2.out
end Go.Proofs.YtnhogbgnnnniaaaDoor.L3
