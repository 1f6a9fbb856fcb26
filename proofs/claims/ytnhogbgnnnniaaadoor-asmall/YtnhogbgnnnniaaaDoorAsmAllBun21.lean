/-
  Helpers: L3Blanks.
-/
import Derived.Test.YtnhogbgnnnniaaaDoorAsmAllBun20
import Derived.Laws.Slices
namespace Go.Proofs.YtnhogbgnnnniaaaDoor.L3
open Go.RowKit

theorem ten_fin {st : St} : takeF st 10 = (finF st).bind fun s => some s.endL := by
  rw [takeF_rest (fun h => h.2 rfl) (by omega) (by omega)]
  cases finF st <;> rfl
theorem fin_zero {st : St} (h : st.ins = 0) : finF st = some st := by
  obtain ⟨T, ln, ins, ws, num, sg⟩ := st
  simp only at h
  subst h
  rfl
theorem fin_one {st : St} (h : st.ins = 1) : finF st = some ⟨st.T, st.ln, 0, st.ws, st.num, st.sg⟩ := by
  unfold finF
  rw [if_neg (by omega), if_neg (by omega), if_neg (by omega)]
theorem fin_ins {st s : St} (h : finF st = some s) : s.ins = 0 := by
  unfold finF at h
  split at h
  · cases h
  · split at h
    · obtain rfl := Option.some.inj h; rfl
    · split at h <;> (obtain rfl := Option.some.inj h; rfl)
/-- a blank: what comes behind it at the line's end is the same -/
theorem blank_ten {st s1 : St} {c : Int} (hc : c = 32 ∨ c = 9 ∨ c = 13) (h : takeF st 10 = some s1) : ∃ st', takeF st c = some st' ∧ takeF st' 10 = some s1 ∧ (st'.ins = 0 ∨ st'.ins = 1) := by
  by_cases h1 : st.ins = 1
  · exact ⟨st, if_pos ⟨h1, by omega⟩, h, .inr h1⟩
  · rw [ten_fin] at h
    cases hf : finF st with
    | none => rw [hf] at h; cases h
    | some s0 =>
      rw [hf] at h
      have h0 := fin_ins hf
      refine ⟨s0, ?_, ?_, .inl h0⟩
      · rw [takeF_rest (fun h => h1 h.1) (by omega) (by omega), hf]
        show othF s0 c = some s0
        exact if_pos hc
      · rw [ten_fin, fin_zero h0]
        exact h
theorem hash_ten {st s1 : St} (hi : st.ins = 0 ∨ st.ins = 1) (h : takeF st 10 = some s1) : ∃ st', takeF st 35 = some st' ∧ takeF st' 10 = some s1 ∧ st'.ins = 1 := by
  rcases hi with h0 | h1
  · refine ⟨⟨st.T, st.ln, 1, st.ws, st.num, st.sg⟩, ?_, ?_, rfl⟩
    · rw [takeF_rest (fun h => by omega) (by omega) (by omega), fin_zero h0]
      rfl
    · rw [ten_fin, fin_zero h0] at h
      rw [ten_fin, fin_one rfl]
      rw [← h]
      obtain ⟨T, ln, ins, ws, num, sg⟩ := st
      simp only at h0
      subst h0
      rfl
  · exact ⟨st, if_pos ⟨h1, by omega⟩, h, h1⟩
theorem comment_run {st : St} (h1 : st.ins = 1) : ∀ l : List UInt8, (∀ b ∈ l, b ≠ 10) → lexGo st l = .inr st
  | [], _ => rfl
  | b :: r, h => by
    have hb : ¬ ((b.toNat : Int) = 10) := fun e => h b (by simp) (by apply UInt8.toNat.inj; simpa using (by omega : b.toNat = 10))
    rw [goY rfl (if_pos ⟨h1, hb⟩)]
    exact comment_run h1 r fun x hx => h x (by simp [hx])
def moreL : Nat → List UInt8
  | 0 => [32]
  | 1 => [32, 35, 32, 119, 111, 114, 100, 115, 44, 32, 53, 32, 58]
  | 2 => [9, 13]
  | _ => [10]
/-- the first three turn nothing -/
theorem more_same {st s1 : St} {j : Nat} (hj : j < 3) (h : takeF st 10 = some s1) (r : List UInt8) : lexGo st (moreL j ++ 10 :: r) = lexGo s1 r := by
  match j, hj with
  | 0, _ =>
    obtain ⟨t1, e1, e2, -⟩ := blank_ten (.inl rfl) h
    exact (goY (b := 32) rfl e1).trans (goY (b := 10) rfl e2)
  | 1, _ =>
    obtain ⟨t1, e1, e2, hi⟩ := blank_ten (.inl rfl) h
    obtain ⟨t2, e3, e4, h1⟩ := hash_ten hi e2
    have hc := comment_run h1 [32, 119, 111, 114, 100, 115, 44, 32, 53, 32, 58] (by decide)
    have e5 : lexGo t2 ([32, 119, 111, 114, 100, 115, 44, 32, 53, 32, 58] ++ 10 :: r) = lexGo s1 r := by
      rw [lexGo_append, hc]
      exact goY (b := 10) rfl e4
    exact (goY (b := 32) rfl e1).trans ((goY (b := 35) rfl e3).trans e5)
  | 2, _ =>
    obtain ⟨t1, e1, e2, -⟩ := blank_ten (c := 9) (.inr (.inl rfl)) h
    obtain ⟨t2, e3, e4, -⟩ := blank_ten (c := 13) (.inr (.inr rfl)) e2
    exact (goY (b := 9) rfl e1).trans ((goY (b := 13) rfl e3).trans (goY (b := 10) rfl e4))
/-- the same tokens, each in its line or one behind it -/
structure Near (T T' : List Tk) : Prop where
  len : T'.length = T.length
  all : ∀ i (h : i < T.length) (h' : i < T'.length), T'[i].k = T[i].k ∧ T'[i].s = T[i].s ∧ T'[i].n = T[i].n ∧ T[i].l ≤ T'[i].l ∧ T'[i].l ≤ T[i].l + 1
theorem Near.refl (T : List Tk) : Near T T := ⟨rfl, fun i h h' => ⟨rfl, rfl, rfl, Int.le_refl _, by omega⟩⟩
theorem Near.on (a X : List Tk) : Near (a ++ X) (a ++ X.map (Tk.on 1)) := by
  refine ⟨by simp, fun i h h' => ?_⟩
  by_cases hi : i < a.length
  · rw [List.getElem_append_left hi, List.getElem_append_left hi]
    exact ⟨rfl, rfl, rfl, Int.le_refl _, by omega⟩
  · rw [List.getElem_append_right (by omega), List.getElem_append_right (by omega), List.getElem_map]
    exact ⟨rfl, rfl, rfl, by simp only [Tk.on]; omega, by simp only [Tk.on]; omega⟩
theorem lex_blanks (p q : List UInt8) (j : Nat) (hj : j < 4) (hq : q = [] ∨ ∃ q', q = 10 :: q') (hl : (p ++ q).length ≤ 2000) (hok : (lexF (p ++ q)).2.2 = 0) :
    (lexF (p ++ moreL j ++ q)).2.2 = 0 ∧ Near (lexF (p ++ q)).1 (lexF (p ++ moreL j ++ q)).1 := by
  obtain ⟨r, hr⟩ : ∃ r, q ++ [10] = 10 :: r := by
    rcases hq with rfl | ⟨q', rfl⟩
    · exact ⟨[], rfl⟩
    · exact ⟨q' ++ [10], rfl⟩
  have hm : (moreL j).length ≤ 13 := by
    match j, hj with
    | 0, _ => decide
    | 1, _ => decide
    | 2, _ => decide
    | 3, _ => decide
  have l1 : ¬ 8192 < (p ++ q).length := by omega
  have l2 : ¬ 8192 < (p ++ moreL j ++ q).length := by simp at hl ⊢; omega
  have x1 : p ++ q ++ [10] = p ++ 10 :: r := by rw [List.append_assoc, hr]
  have x2 : p ++ moreL j ++ q ++ [10] = p ++ (moreL j ++ 10 :: r) := by rw [List.append_assoc, List.append_assoc, hr]
  unfold lexF at hok ⊢
  rw [if_neg l1, x1, lexGo_append] at hok
  rw [if_neg l1, if_neg l2, x1, x2, lexGo_append, lexGo_append]
  cases hp : lexGo st0 p with
  | inl x => rw [hp] at hok; simp at hok
  | inr st =>
    rw [hp] at hok
    simp only at hok ⊢
    cases ht : takeF st 10 with
    | none => rw [goN (b := 10) rfl ht] at hok; simp at hok
    | some s1 =>
      have e1 : lexGo st (10 :: r) = lexGo s1 r := goY (b := 10) rfl ht
      rw [e1] at hok ⊢
      by_cases h3 : j < 3
      · rw [more_same h3 ht r]
        cases hu : lexGo s1 r with
        | inl x => rw [hu] at hok; simp at hok
        | inr u => exact ⟨rfl, Near.refl _⟩
      · obtain rfl : j = 3 := by omega
        have hcl := (Cl.go p st0 st cl0 hp).1
        obtain ⟨r1, r2, r3, r4, r5⟩ := line_end hcl ht
        have ht2 : takeF s1 10 = some s1.endL := by rw [ten_fin, fin_zero r1]; rfl
        have e2 : lexGo st (moreL 3 ++ 10 :: r) = lexGo s1.endL r := (goY (b := 10) (r := 10 :: r) rfl ht).trans (goY (b := 10) rfl ht2)
        rw [e2]
        have hT : s1.endL.T = s1.T := by simp [St.endL, r4]
        have hSh : Sh s1.T s1.T 1 s1 s1.endL := ⟨⟨[], by simp, by simp [hT]⟩, rfl, rfl, rfl, rfl, fun hx => absurd (.inl r1) hx⟩
        rcases Sh.go r4 r4 r s1 s1.endL hSh with ⟨x, f1, f2⟩ | ⟨u, u', f1, f2, hu⟩
        · rw [f1] at hok; simp at hok
        · rw [f1, f2]
          obtain ⟨X, y1, y2⟩ := hu.toks
          refine ⟨rfl, ?_⟩
          simp only
          rw [y1, y2]
          exact Near.on _ _
theorem strB_take (l : List UInt8) (k : Nat) : (strB l).extract 0 k = strB (l.take k) := by
  apply ByteArray.ext
  simp [strB, ByteArray.extract, ByteArray.copySlice]
theorem strB_drop (l : List UInt8) (k : Nat) : (strB l).extract k l.length = strB (l.drop k) := by
  apply ByteArray.ext
  simp [strB, ByteArray.extract, ByteArray.copySlice]
  exact List.take_of_length_le (by simp)
theorem byteL (l : List UInt8) (q : Nat) (h : q < l.length) (w : World) : (Instr.index 9 (.string (strB l)) (.int .i64 (q : Int))).run Tryd.prog w = .ok (.int .u8 (l[q].toNat : Int)) w := by
  have hs : (strB l).size = l.length := strB_size l
  have h0 : q < (strB l).size := by omega
  have h1 : (0 : Int) ≤ (q : Int) := by omega
  have h2 : (q : Int) < ((strB l).size : Int) := by omega
  have e : (strB l)[q]'h0 = l[q]'h := by simp [strB]; rfl
  have key : (Instr.index 9 (.string (strB l)) (.int .i64 (q : Int))).run Tryd.prog w = .ok (.int .u8 (((strB l)[q]'h0).toNat : Int)) w := by go_simp
  exact key.trans (by rw [e])
theorem drawsL {B : Nat} {a w : World} (h : Below B a w) (n : Nat) : Below B a (w.drewN n) := ⟨h.os, h.tape, h.output, h.size, h.block⟩
theorem cut_head (l : List UInt8) (k : Nat) (w : World) (h : k ≤ l.length) : (Instr.slice 9 (.string (strB l)) none (some (.int .i64 (k : Int))) none).run Tryd.prog w = .ok (.string (strB (l.take k))) w := by
  have hs : (strB l).size = l.length := strB_size l
  rw [run_slice_string_h (P := Tryd.prog) w 9 (strB l) Tryd.underlying9 .i64 (k : Int) (by omega) (by omega), Int.toNat_natCast, strB_take]
theorem cut_tail (l : List UInt8) (k : Nat) (w : World) (h : k ≤ l.length) : (Instr.slice 9 (.string (strB l)) (some (.int .i64 (k : Int))) none none).run Tryd.prog w = .ok (.string (strB (l.drop k))) w := by
  have hs : (strB l).size = l.length := strB_size l
  rw [run_slice_string_l (P := Tryd.prog) w 9 (strB l) Tryd.underlying9 .i64 (k : Int) (by omega) (by omega), Int.toNat_natCast, hs, strB_drop]
end Go.Proofs.YtnhogbgnnnniaaaDoor.L3
