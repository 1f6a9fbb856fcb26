/-
  The reference's way through a text, plainly.
-/
import Derived.Test.YtdpagipbaddnfaaDoorL3Blanks
import Derived.Test.YtdpagipbaddnfaaDoorL3Digits
namespace Go.Proofs.YtdpagipbaddnfaaDoor.L3
open Go.RowKit

def isL (c : UInt8) : Prop := 97 ≤ c.toNat ∧ c.toNat ≤ 122
def isD (c : UInt8) : Prop := 48 ≤ c.toNat ∧ c.toNat ≤ 57
instance (c : UInt8) : Decidable (isL c) := by unfold isL; infer_instance
instance (c : UInt8) : Decidable (isD c) := by unfold isD; infer_instance
def seg (l : List UInt8) (a b : Nat) : List UInt8 := (l.drop a).take (b - a)
theorem take_seg (l : List UInt8) {a b : Nat} (h : a ≤ b) : l.take b = l.take a ++ seg l a b := by
  rw [seg, ← List.take_add]
  congr 1
  omega
theorem seg_succ (l : List UInt8) {a b : Nat} (h : a ≤ b) (hb : b < l.length) : seg l a (b + 1) = seg l a b ++ [l[b]] := by
  unfold seg
  rw [show b + 1 - a = (b - a) + 1 by omega, List.take_succ_eq_append_getElem (by simp; omega)]
  congr 2
  simp
  congr 1
  omega
theorem seg_self (l : List UInt8) (a : Nat) : seg l a a = [] := by simp [seg]
theorem seg_length (l : List UInt8) {a b : Nat} (h : a ≤ b) (hb : b ≤ l.length) : (seg l a b).length = b - a := by simp [seg]; omega
theorem seg_one (l : List UInt8) {a : Nat} (h : a < l.length) : seg l a (a + 1) = [l[a]] := by rw [seg_succ l (Nat.le_refl a) h, seg_self]; rfl
theorem strB_seg (l : List UInt8) (a b : Nat) : (strB l).extract a b = strB (seg l a b) := by
  apply ByteArray.ext
  simp [strB, ByteArray.extract, ByteArray.copySlice, seg]
section
variable {sl : List UInt8} {st st' : St} {i j : Nat}
theorem go_next (h : lexGo st0 (sl.take i) = .inr st) (hi : i < sl.length) (ht : takeF st sl[i].toNat = some st') : lexGo st0 (sl.take (i + 1)) = .inr st' := by
  rw [List.take_succ_eq_append_getElem hi, lexGo_append, h]
  exact (goY rfl ht).trans rfl
theorem go_seg (h : lexGo st0 (sl.take i) = .inr st) (hij : i ≤ j) (ht : lexGo st (seg sl i j) = .inr st') : lexGo st0 (sl.take j) = .inr st' := by
  rw [take_seg sl hij, lexGo_append, h]
  exact ht
theorem told_seg {x : Int} (h : lexGo st0 (sl.take i) = .inr st) (hij : i ≤ j) (hl : sl.length ≤ 8192) (ht : lexGo st (seg sl i j) = .inl x) : lexF sl = ([], x, 3) := by
  have e : lexGo st0 (sl ++ [10]) = .inl x := by
    have : sl ++ [10] = sl.take i ++ (seg sl i j ++ (sl.drop j ++ [10])) := by
      rw [← List.append_assoc (seg sl i j), ← List.append_assoc, ← List.append_assoc, ← take_seg sl hij, List.take_append_drop]
    rw [this, lexGo_append, h]
    show lexGo st (seg sl i j ++ (sl.drop j ++ [10])) = _
    rw [lexGo_append, ht]
  unfold lexF
  rw [if_neg (by omega), e]
theorem told_at (h : lexGo st0 (sl.take i) = .inr st) (hl : sl.length ≤ 8192) (hi : i < sl.length) (ht : takeF st sl[i].toNat = none) : lexF sl = ([], st.ln, 3) :=
  told_seg (j := i + 1) h (by omega) hl (by rw [seg_one sl hi]; exact goN rfl ht)
theorem told_end (h : lexGo st0 (sl.take i) = .inr st) (hl : sl.length ≤ 8192) (hi : ¬ i < sl.length) (ht : takeF st 10 = none) : lexF sl = ([], st.ln, 3) := by
  rw [List.take_of_length_le (by omega)] at h
  have e : lexGo st0 (sl ++ [10]) = .inl st.ln := by
    rw [lexGo_append, h]
    exact goN (b := 10) rfl ht
  unfold lexF
  rw [if_neg (by omega), e]
end
/-- the reference at the place i: what it has, all of it ended -/
structure RefAt (sl : List UInt8) (i : Nat) (T : List Tk) (ln : Int) : Prop where
  at' : ∃ st s0, lexGo st0 (sl.take i) = .inr st ∧ Cl st ∧ finF st = some s0 ∧ s0.T = T ∧ s0.ln = ln ∧
    (st.ins = 0 ∨ (st.ins = 1 ∧ ∀ h : i < sl.length, sl[i] = 10) ∨ ((st.ins = 2 ∨ st.ins = 4) ∧ ∀ h : i < sl.length, ¬ isL sl[i] ∧ ¬ isD sl[i]))
theorem ref0 (sl : List UInt8) : RefAt sl 0 [] 1 := ⟨st0, st0, rfl, cl0, rfl, rfl, rfl, .inl rfl⟩
theorem nat_ten {c : UInt8} (h : c = 10) : (c.toNat : Int) = 10 := by rw [h]; rfl
theorem ten_nat {c : UInt8} (h : ¬ c = 10) : ¬ (c.toNat : Int) = 10 := fun e => h (by apply UInt8.toNat.inj; simpa using (by omega : c.toNat = 10))
section
variable {sl : List UInt8} {i : Nat} {T : List Tk} {ln : Int}
theorem RefAt.done (h : RefAt sl i T ln) (hl : sl.length ≤ 8192) (hi : ¬ i < sl.length) : lexF sl = (if openT T then T ++ [⟨4, [], 0, ln⟩] else T, 0, 0) := by
  obtain ⟨st, s0, h1, h2, h3, rfl, rfl, -⟩ := h
  rw [List.take_of_length_le (by omega)] at h1
  have e : takeF st 10 = some s0.endL := by rw [ten_fin, h3]; rfl
  have e2 : lexGo st0 (sl ++ [10]) = .inr s0.endL := by
    rw [lexGo_append, h1]
    exact (goY (b := 10) rfl e).trans rfl
  unfold lexF
  rw [if_neg (by omega), e2]
  rfl
theorem RefAt.ten (h : RefAt sl i T ln) (hi : i < sl.length) (hc : sl[i] = 10) : RefAt sl (i + 1) (if openT T then T ++ [⟨4, [], 0, ln⟩] else T) (ln + 1) := by
  obtain ⟨st, s0, h1, h2, h3, rfl, rfl, -⟩ := h
  have e : takeF st 10 = some s0.endL := by rw [ten_fin, h3]; rfl
  have i0 := fin_ins h3
  exact ⟨s0.endL, s0.endL, go_next h1 hi (by rw [nat_ten hc]; exact e), (h2.take e).1, fin_zero i0, rfl, rfl, .inl i0⟩
/-- where the next byte is none of a token's, and no line's end -/
theorem RefAt.open (h : RefAt sl i T ln) (hi : i < sl.length) (h10 : ¬ sl[i] = 10) : ∃ st s0, lexGo st0 (sl.take i) = .inr st ∧ Cl st ∧ finF st = some s0 ∧ s0.T = T ∧ s0.ln = ln ∧ s0.ins = 0 ∧ s0.ws = [] ∧ s0.num = 0 ∧ st.ins ≠ 1 ∧ (isL sl[i] ∨ isD sl[i] → st = s0) ∧ st.ln = ln := by
  obtain ⟨st, s0, h1, h2, h3, rfl, rfl, h4⟩ := h
  obtain ⟨q0, q1, q2, q3⟩ := h2.fin h3
  refine ⟨st, s0, h1, h2, h3, rfl, rfl, q0, q1, q2, ?_, ?_, q3.symm⟩
  · rcases h4 with h | ⟨-, h⟩ | ⟨h, -⟩
    · omega
    · exact absurd (h hi) h10
    · omega
  · intro ha
    rcases h4 with h | ⟨-, h⟩ | ⟨-, h⟩
    · exact Option.some.inj ((fin_zero h).symm.trans h3)
    · exact absurd (h hi) h10
    · obtain ⟨n1, n2⟩ := h hi
      exact absurd ha (by rintro (a | a); exact n1 a; exact n2 a)
theorem RefAt.blank (h : RefAt sl i T ln) (hi : i < sl.length) (hc : (sl[i].toNat : Int) = 32 ∨ (sl[i].toNat : Int) = 9 ∨ (sl[i].toNat : Int) = 13) : RefAt sl (i + 1) T ln := by
  obtain ⟨st, s0, h1, h2, h3, h4, h5, q0, q1, q2, hn, -⟩ := h.open hi (fun e => by have := nat_ten e; omega)
  have e : takeF st sl[i].toNat = some s0 := by
    rw [takeF_rest (fun h => hn h.1) (by omega) (by omega), h3]
    exact if_pos hc
  exact ⟨s0, s0, go_next h1 hi e, (h2.take e).1, fin_zero q0, h4, h5, .inl q0⟩
theorem RefAt.sign (h : RefAt sl i T ln) (hi : i < sl.length) (hc : (sl[i].toNat : Int) = 58 ∨ (sl[i].toNat : Int) = 44) : RefAt sl (i + 1) (T ++ [⟨3, seg sl i (i + 1), 0, ln⟩]) ln := by
  obtain ⟨st, s0, h1, h2, h3, rfl, rfl, q0, q1, q2, hn, -⟩ := h.open hi (fun e => by have := nat_ten e; omega)
  have hby : byteOf (sl[i].toNat : Int) = sl[i] := by simp [byteOf]
  have e : takeF st sl[i].toNat = some ⟨s0.T ++ [⟨3, [sl[i]], 0, s0.ln⟩], s0.ln, s0.ins, s0.ws, s0.num, s0.sg⟩ := by
    rw [takeF_rest (fun h => hn h.1) (by omega) (by omega), h3]
    show othF s0 _ = _
    unfold othF
    rw [if_neg (by omega), if_neg (by omega), if_neg (by omega), if_neg (by omega), if_pos hc, hby]
  rw [seg_one sl hi]
  exact ⟨_, _, go_next h1 hi e, (h2.take e).1, fin_zero q0, rfl, rfl, .inl q0⟩
theorem RefAt.wrong (h : RefAt sl i T ln) (hl : sl.length ≤ 8192) (hi : i < sl.length) (h10 : ¬ sl[i] = 10)
    (hb : ¬ ((sl[i].toNat : Int) = 32 ∨ (sl[i].toNat : Int) = 9 ∨ (sl[i].toNat : Int) = 13)) (h35 : ¬ (sl[i].toNat : Int) = 35) (h45 : ¬ (sl[i].toNat : Int) = 45) (hs : ¬ ((sl[i].toNat : Int) = 58 ∨ (sl[i].toNat : Int) = 44)) (hL : ¬ isL sl[i]) (hD : ¬ isD sl[i]) : lexF sl = ([], ln, 3) := by
  obtain ⟨st, s0, h1, h2, h3, h4, h5, q0, q1, q2, hn, -, h6⟩ := h.open hi h10
  rw [← h6]
  refine told_at h1 hl hi ?_
  unfold isL at hL
  unfold isD at hD
  rw [takeF_rest (fun h => hn h.1) (by omega) (by omega), h3]
  show othF s0 _ = none
  unfold othF
  rw [if_neg hb, if_neg (ten_nat h10), if_neg h35, if_neg h45, if_neg hs]
theorem RefAt.comment (h : RefAt sl i T ln) (hi : i < sl.length) (hc : (sl[i].toNat : Int) = 35) {j : Nat} (hij : i + 1 ≤ j) (hno : ∀ b ∈ seg sl (i + 1) j, b ≠ 10) (hend : ∀ h : j < sl.length, sl[j] = 10) : RefAt sl j T ln := by
  obtain ⟨st, s0, h1, h2, h3, rfl, rfl, q0, q1, q2, hn, -⟩ := h.open hi (fun e => by have := nat_ten e; omega)
  have e : takeF st sl[i].toNat = some ⟨s0.T, s0.ln, 1, s0.ws, s0.num, s0.sg⟩ := by
    rw [takeF_rest (fun h => hn h.1) (by omega) (by omega), h3]
    show othF s0 _ = _
    unfold othF
    rw [if_neg (by omega), if_neg (by omega), if_pos hc]
  have g := go_next h1 hi e
  exact ⟨_, ⟨s0.T, s0.ln, 0, s0.ws, s0.num, s0.sg⟩, go_seg g hij (comment_run rfl _ hno), ⟨fun _ => q1, fun _ => q2⟩, fin_one rfl, rfl, rfl, .inr (.inl ⟨rfl, hend⟩)⟩
theorem let_run : ∀ (l : List UInt8) (T : List Tk) (ln num sg : Int) (ins : Int) (ws : List UInt8), (∀ b ∈ l, isL b) → ¬ (ins = 1 ∨ ins = 3 ∨ ins = 4) → l ≠ [] → lexGo ⟨T, ln, ins, ws, num, sg⟩ l = .inr ⟨T, ln, 2, ws ++ l, num, sg⟩
  | [], _, _, _, _, _, _, _, _, hne => absurd rfl hne
  | b :: r, T, ln, num, sg, ins, ws, hl, hi, _ => by
    obtain ⟨b1, b2⟩ := hl b (by simp)
    have hby : byteOf (b.toNat : Int) = b := by simp [byteOf]
    have e : takeF ⟨T, ln, ins, ws, num, sg⟩ b.toNat = some ⟨T, ln, 2, ws ++ [b], num, sg⟩ := by
      rw [takeF_let (by simp only; omega) (by omega) (by omega)]
      unfold letF
      rw [if_neg (by simp only; omega), hby]
    rw [goY rfl e]
    by_cases hr : r = []
    · subst hr
      rfl
    · rw [let_run r T ln num sg 2 (ws ++ [b]) (fun x hx => hl x (by simp [hx])) (by omega) hr]
      simp
theorem RefAt.word (h : RefAt sl i T ln) (hl : sl.length ≤ 8192) (hi : i < sl.length) (hc : isL sl[i]) {j : Nat} (hij : i < j) (hall : ∀ b ∈ seg sl i j, isL b) (hjl : j ≤ sl.length) :
    ((∃ h : j < sl.length, isD sl[j]) → lexF sl = ([], ln, 3)) ∧ ((∀ h : j < sl.length, ¬ isL sl[j] ∧ ¬ isD sl[j]) → RefAt sl j (T ++ [⟨1, seg sl i j, 0, ln⟩]) ln) := by
  have hcc := hc
  obtain ⟨c1, c2⟩ := hcc
  obtain ⟨st, s0, h1, h2, h3, h4, h5, q0, q1, q2, hn, hst, -⟩ := h.open hi (fun e => by have := nat_ten e; omega)
  obtain rfl := hst (.inl hc)
  obtain ⟨T', ln', ins, ws, num, sg⟩ := st
  simp only at h4 h5 q0 q1 q2
  subst h4 h5 q0 q1 q2
  have hne : seg sl i j ≠ [] := fun e => by
    have := seg_length sl (Nat.le_of_lt hij) hjl
    rw [e] at this
    simp at this
    omega
  have hrun := let_run (seg sl i j) T' ln' 0 sg 0 [] hall (by omega) hne
  rw [List.nil_append] at hrun
  have g := go_seg h1 (Nat.le_of_lt hij) hrun
  refine ⟨fun ⟨hj, hd⟩ => ?_, fun hno => ⟨_, ⟨T' ++ [⟨1, seg sl i j, 0, ln'⟩], ln', 0, [], 0, sg⟩, g, ⟨fun hx => absurd rfl hx, fun _ => rfl⟩, rfl, rfl, rfl, .inr (.inr ⟨.inl rfl, hno⟩)⟩⟩
  obtain ⟨d1, d2⟩ := hd
  exact told_at g hl hj (by rw [takeF_dig (by simp) (by omega) (by omega)]; rfl)
/-- a number: from i on, its digits from i1 to j -/
theorem RefAt.num (h : RefAt sl i T ln) (hl : sl.length ≤ 8192) (hi : i < sl.length) {i1 j : Nat} {g : Int} (hg : (g = -1 ∧ (sl[i].toNat : Int) = 45 ∧ i1 = i + 1) ∨ (g = 1 ∧ isD sl[i] ∧ i1 = i)) (hij : i1 ≤ j) (hjl : j ≤ sl.length)
    (hall : Digs (seg sl i1 j)) (hnd : ∀ h : j < sl.length, ¬ isD sl[j]) :
    (¬ (i1 < j ∧ inR (g * (valF 0 (seg sl i1 j) : Int)) ∧ ∀ h : j < sl.length, ¬ isL sl[j]) → lexF sl = ([], ln, 3)) ∧
    ((i1 < j ∧ inR (g * (valF 0 (seg sl i1 j) : Int)) ∧ ∀ h : j < sl.length, ¬ isL sl[j]) → RefAt sl j (T ++ [⟨2, [], g * (valF 0 (seg sl i1 j) : Int), ln⟩]) ln) := by
  have key : ∃ st, lexGo st0 (sl.take i1) = .inr st ∧ st.T = T ∧ st.ln = ln ∧ st.ws = [] ∧ st.num = 0 ∧ sgF st = g ∧ st.ins ≠ 1 ∧ st.ins ≠ 2 ∧ (i1 = j → st.ins = 3) := by
    rcases hg with ⟨rfl, hc, rfl⟩ | ⟨rfl, hc, rfl⟩
    · obtain ⟨st, s0, h1, h2, h3, rfl, rfl, q0, q1, q2, hn, -⟩ := h.open hi (fun e => by have := nat_ten e; omega)
      have e : takeF st sl[i].toNat = some ⟨s0.T, s0.ln, 3, s0.ws, s0.num, -1⟩ := by
        rw [takeF_rest (fun h => hn h.1) (by omega) (by omega), h3]
        show othF s0 _ = _
        unfold othF
        rw [if_neg (by omega), if_neg (by omega), if_neg (by omega), if_pos hc]
      exact ⟨_, go_next h1 hi e, rfl, rfl, q1, q2, rfl, by simp, by simp, fun _ => rfl⟩
    · have hcc := hc
      obtain ⟨c1, c2⟩ := hcc
      obtain ⟨st, s0, h1, h2, h3, h4, h5, q0, q1, q2, hn, hst, -⟩ := h.open hi (fun e => by have := nat_ten e; omega)
      obtain rfl := hst (.inr hc)
      exact ⟨st, h1, h4, h5, q1, q2, if_pos q0, hn, by omega, fun e => absurd hc (hnd (by omega) |> fun f => by subst e; exact f)⟩
  obtain ⟨st, k1, rfl, rfl, k4, k5, k6, k7, k8, k9⟩ := key
  have hg2 : g = 1 ∨ g = -1 := by rcases hg with ⟨h, -⟩ | ⟨h, -⟩ <;> simp [h]
  by_cases hij2 : i1 < j
  · have hne : seg sl i1 j ≠ [] := fun e => by
      have := seg_length sl hij hjl
      rw [e] at this
      simp at this
      omega
    obtain ⟨hy, hno⟩ := dig_run hg2 (seg sl i1 j) st 0 hall k7 k8 k6 (by rw [k5]; simp) hne
    by_cases hr : inR (g * (valF 0 (seg sl i1 j) : Int))
    · have gg := go_seg k1 hij (hy hr)
      rw [k4] at gg
      refine ⟨fun hx => ?_, fun hx => ⟨_, ⟨st.T ++ [⟨2, [], g * (valF 0 (seg sl i1 j) : Int), st.ln⟩], st.ln, 0, [], 0, g⟩, gg, ⟨fun _ => rfl, fun hx => absurd rfl hx⟩, rfl, rfl, rfl, .inr (.inr ⟨.inr rfl, fun h => ⟨hx.2.2 h, hnd h⟩⟩)⟩⟩
      have hL : ∃ h : j < sl.length, isL sl[j] := Classical.byContradiction fun hn => hx ⟨hij2, hr, fun h hl => hn ⟨h, hl⟩⟩
      obtain ⟨hj, hL⟩ := hL
      obtain ⟨c1, c2⟩ := hL
      have ht := told_at gg hl hj (by rw [takeF_let (by simp) (by omega) (by omega)]; rfl)
      exact ht
    · exact ⟨fun _ => told_seg k1 hij hl (hno hr), fun hx => absurd hx.2.1 hr⟩
  · obtain rfl : i1 = j := by omega
    have h3 := k9 rfl
    refine ⟨fun _ => ?_, fun hx => absurd hx.1 hij2⟩
    have hnone : ∀ c : Int, ¬ (48 ≤ c ∧ c ≤ 57) → takeF st c = none := fun c hc => by
      by_cases hL : 97 ≤ c ∧ c ≤ 122
      · rw [takeF_let k7 hL.1 hL.2]
        exact if_pos (.inl h3)
      · rw [takeF_rest (fun h => k7 h.1) hL hc]
        have : finF st = none := if_pos h3
        rw [this]
        rfl
    by_cases hj : i1 < sl.length
    · have hd := hnd hj
      unfold isD at hd
      exact told_at k1 hl hj (hnone _ (by omega))
    · exact told_end k1 hl hj (hnone 10 (by omega))
end
end Go.Proofs.YtdpagipbaddnfaaDoor.L3