/-
  Helpers: L3Lex.
-/
import Derived.Test.YtnhogbgnnnniaaaDoorRows
import Derived.WalkKit
import Derived.Laws.Cover4
import Derived.Lib.OthersKept
import Derived.Lib.DecodeN
namespace Go.Proofs.YtnhogbgnnnniaaaDoor.L3
open Go.RowKit

def strB (l : List UInt8) : ByteArray := ⟨l.toArray⟩
theorem strB_data (l : List UInt8) : (strB l).data.toList = l := by simp [strB]
theorem strB_inj {a b : List UInt8} (h : strB a = strB b) : a = b := by rw [← strB_data a, h, strB_data]
theorem strB_size (l : List UInt8) : (strB l).size = l.length := by simp [strB, ByteArray.size]
theorem strB_of (s : ByteArray) : strB s.data.toList = s := by simp [strB]
theorem strB_append (a b : List UInt8) : strB a ++ strB b = strB (a ++ b) := by
  apply ByteArray.ext
  simp [strB, ByteArray.data_append]

structure Tk where
  k : Int
  s : List UInt8
  n : Int
  l : Int
structure St where
  T : List Tk
  ln : Int
  ins : Int
  ws : List UInt8
  num : Int
  sg : Int
def St.add (st : St) (k : Int) (s : List UInt8) (n : Int) : St := ⟨st.T ++ [⟨k, s, n, st.ln⟩], st.ln, st.ins, st.ws, st.num, st.sg⟩
def openT (T : List Tk) : Bool := match T.getLast? with | some t => t.k != 4 | none => false
def St.endL (st : St) : St := ⟨if openT st.T then st.T ++ [⟨4, [], 0, st.ln⟩] else st.T, st.ln + 1, st.ins, st.ws, st.num, st.sg⟩
def finF (st : St) : Option St :=
  if st.ins = 3 then none
  else if st.ins = 2 then some ⟨st.T ++ [⟨1, st.ws, 0, st.ln⟩], st.ln, 0, [], st.num, st.sg⟩
  else if st.ins = 4 then some ⟨st.T ++ [⟨2, [], st.num, st.ln⟩], st.ln, 0, st.ws, 0, st.sg⟩
  else some ⟨st.T, st.ln, 0, st.ws, st.num, st.sg⟩
def byteOf (c : Int) : UInt8 := UInt8.ofNat c.toNat
def othF (st : St) (c : Int) : Option St :=
  if c = 32 ∨ c = 9 ∨ c = 13 then some st
  else if c = 10 then some st.endL
  else if c = 35 then some ⟨st.T, st.ln, 1, st.ws, st.num, st.sg⟩
  else if c = 45 then some ⟨st.T, st.ln, 3, st.ws, st.num, -1⟩
  else if c = 58 ∨ c = 44 then some ⟨st.T ++ [⟨3, [byteOf c], 0, st.ln⟩], st.ln, st.ins, st.ws, st.num, st.sg⟩
  else none
def letF (st : St) (c : Int) : Option St := if st.ins = 3 ∨ st.ins = 4 then none else some ⟨st.T, st.ln, 2, st.ws ++ [byteOf c], st.num, st.sg⟩
def sgF (st : St) : Int := if st.ins = 0 then 1 else st.sg
def digF (st : St) (d : Int) : Option St :=
  if st.ins = 2 then none
  else if -2147483648 ≤ 10 * st.num + sgF st * d ∧ 10 * st.num + sgF st * d ≤ 2147483647 then some ⟨st.T, st.ln, 4, st.ws, 10 * st.num + sgF st * d, sgF st⟩
  else none
def takeF (st : St) (c : Int) : Option St :=
  if st.ins = 1 ∧ c ≠ 10 then some st
  else if 97 ≤ c ∧ c ≤ 122 then letF st c
  else if 48 ≤ c ∧ c ≤ 57 then digF st (c - 48)
  else (finF st).bind fun s => othF s c

/-- what a reader may hold behind m bytes -/
structure Bd (st : St) (m : Nat) : Prop where
  toks : st.T.length ≤ 2 * m
  wd : st.ws.length ≤ m
  ln1 : 1 ≤ st.ln
  ln2 : st.ln ≤ m + 1
  num1 : -2147483648 ≤ st.num
  num2 : st.num ≤ 2147483647
  sg1 : -1 ≤ st.sg
  sg2 : st.sg ≤ 1
  low : ∀ b ∈ st.ws, b.toNat < 128
theorem Bd.mono {st : St} {m m' : Nat} (h : Bd st m) (hm : m ≤ m') : Bd st m' :=
  ⟨by have := h.toks; omega, by have := h.wd; omega, h.ln1, by have := h.ln2; omega, h.num1, h.num2, h.sg1, h.sg2, h.low⟩
theorem byteOf_low {c : Int} (h : c ≤ 122) : (byteOf c).toNat < 128 := by
  have : (byteOf c).toNat = c.toNat % 256 := by simp [byteOf]
  omega
theorem finF_bd {st st' : St} {m : Nat} (h : Bd st m) (hf : finF st = some st') : st'.T.length ≤ 2 * m + 1 ∧ st'.ln = st.ln ∧ Bd ⟨[], st'.ln, st'.ins, st'.ws, st'.num, st'.sg⟩ m := by
  have ht := h.toks
  obtain ⟨h1, h2, h3, h4, h5, h6, h7, h8, h9⟩ := h
  unfold finF at hf
  split at hf
  · cases hf
  · split at hf
    · obtain rfl := Option.some.inj hf
      exact ⟨by simp; omega, rfl, ⟨by simp, by simp, h3, h4, h5, h6, h7, h8, by simp⟩⟩
    · split at hf
      · obtain rfl := Option.some.inj hf
        exact ⟨by simp; omega, rfl, ⟨by simp, h2, h3, h4, by simp, by simp, h7, h8, h9⟩⟩
      · obtain rfl := Option.some.inj hf
        exact ⟨by simp; omega, rfl, ⟨by simp, h2, h3, h4, h5, h6, h7, h8, h9⟩⟩
theorem othF_bd {st st' : St} {m : Nat} {c : Int} (ht : st.T.length ≤ 2 * m + 1) (h : Bd ⟨[], st.ln, st.ins, st.ws, st.num, st.sg⟩ m) (hf : othF st c = some st') : Bd st' (m + 1) := by
  obtain ⟨-, h2, h3, h4, h5, h6, h7, h8, h9⟩ := h
  simp only at h2 h3 h4 h5 h6 h7 h8 h9
  unfold othF at hf
  split at hf
  · obtain rfl := Option.some.inj hf
    exact ⟨by omega, by omega, h3, by omega, h5, h6, h7, h8, h9⟩
  · split at hf
    · obtain rfl := Option.some.inj hf
      refine ⟨?_, by simp only [St.endL]; omega, by simp only [St.endL]; omega, by simp only [St.endL]; omega, h5, h6, h7, h8, h9⟩
      simp only [St.endL]
      split
      · simp; omega
      · omega
    · split at hf
      · obtain rfl := Option.some.inj hf
        exact ⟨by simp only; omega, by simp only; omega, h3, by simp only; omega, h5, h6, h7, h8, h9⟩
      · split at hf
        · obtain rfl := Option.some.inj hf
          exact ⟨by simp only; omega, by simp only; omega, h3, by simp only; omega, h5, h6, by simp, by simp, h9⟩
        · split at hf
          · obtain rfl := Option.some.inj hf
            exact ⟨by simp; omega, by simp only; omega, h3, by simp only; omega, h5, h6, h7, h8, h9⟩
          · cases hf
theorem takeF_bd {st st' : St} {m : Nat} {c : Int} (h : Bd st m) (hf : takeF st c = some st') : Bd st' (m + 1) := by
  unfold takeF at hf
  split at hf
  · obtain rfl := Option.some.inj hf
    exact h.mono (by omega)
  · split at hf
    · rename_i hc
      unfold letF at hf
      split at hf
      · cases hf
      · obtain rfl := Option.some.inj hf
        obtain ⟨h1, h2, h3, h4, h5, h6, h7, h8, h9⟩ := h
        refine ⟨by simp only; omega, by simp; omega, h3, by simp only; omega, h5, h6, h7, h8, fun b hb => ?_⟩
        simp at hb
        rcases hb with hb | rfl
        · exact h9 b hb
        · exact byteOf_low hc.2
    · split at hf
      · unfold digF at hf
        split at hf
        · cases hf
        · split at hf
          · rename_i hr
            obtain rfl := Option.some.inj hf
            obtain ⟨h1, h2, h3, h4, h5, h6, h7, h8, h9⟩ := h
            refine ⟨by simp only; omega, by simp only; omega, h3, by simp only; omega, hr.1, hr.2, ?_, ?_, h9⟩ <;> (simp only [sgF]; split <;> omega)
          · cases hf
      · cases hs : finF st with
        | none => rw [hs] at hf; cases hf
        | some s1 =>
          rw [hs] at hf
          obtain ⟨q1, q2, q3⟩ := finF_bd h hs
          exact othF_bd q1 q3 hf

/-- all of a text: where it is told, or what is left -/
def lexGo : St → List UInt8 → Int ⊕ St
  | st, [] => .inr st
  | st, b :: r => match takeF st b.toNat with
    | none => .inl st.ln
    | some st' => lexGo st' r
theorem lexGo_append : ∀ (st : St) (a b : List UInt8), lexGo st (a ++ b) = match lexGo st a with | .inl x => .inl x | .inr st' => lexGo st' b
  | st, [], b => rfl
  | st, x :: a, b => by
    simp only [List.cons_append, lexGo]
    cases takeF st x.toNat with
    | none => rfl
    | some st' => exact lexGo_append st' a b
theorem lexGo_bd : ∀ {st st' : St} {m : Nat} (l : List UInt8), Bd st m → lexGo st l = .inr st' → Bd st' (m + l.length)
  | st, st', m, [], h, hl => by cases hl; simpa using h
  | st, st', m, x :: r, h, hl => by
    simp only [lexGo] at hl
    cases ht : takeF st x.toNat with
    | none => rw [ht] at hl; cases hl
    | some s1 =>
      rw [ht] at hl
      have := lexGo_bd r (takeF_bd h ht) hl
      rw [List.length_cons, show m + (r.length + 1) = m + 1 + r.length by omega]
      exact this
def st0 : St := ⟨[], 1, 0, [], 0, 0⟩
theorem st0_bd : Bd st0 0 := ⟨by simp [st0], by simp [st0], by simp [st0], by simp [st0], by simp [st0], by simp [st0], by simp [st0], by simp [st0], by simp [st0]⟩
/-- what All answers: tokens, line, error -/
def lexF (l : List UInt8) : List Tk × Int × Int :=
  if 8192 < l.length then ([], 0, 2)
  else match lexGo st0 (l ++ [10]) with
    | .inl x => ([], x, 3)
    | .inr st => (st.T, 0, 0)
/-- a rune beyond ASCII: nothing but a comment takes it -/
theorem takeF_high {st : St} {c : Int} (h : 128 ≤ c) : takeF st c = if st.ins = 1 then some st else none := by
  unfold takeF
  by_cases h1 : st.ins = 1
  · rw [if_pos ⟨h1, by omega⟩, if_pos h1]
  · rw [if_neg (fun h => h1 h.1), if_neg (by omega), if_neg (by omega), if_neg h1]
    cases finF st with
    | none => rfl
    | some s =>
      show othF s c = none
      unfold othF
      rw [if_neg (by omega), if_neg (by omega), if_neg (by omega), if_neg (by omega), if_neg (by omega)]
theorem lexGo_high {st : St} (h1 : st.ins = 1) : ∀ l : List UInt8, (∀ b ∈ l, 128 ≤ b.toNat) → lexGo st l = .inr st
  | [], _ => rfl
  | b :: r, h => by
    simp only [lexGo]
    rw [takeF_high (by have := h b (by simp); omega), if_pos h1]
    exact lexGo_high h1 r fun x hx => h x (by simp [hx])
theorem getE {s : ByteArray} {i : Nat} (h : i < s.size) : s.get! i = s.data.toList[i]'(by simpa using h) := by
  have e : s.get! i = s[i]'h := get_at s i h
  rw [e, Array.getElem_toList]
  rfl
/-- what a rune covers -/
theorem decode_span (s : ByteArray) (pos : Nat) (h : pos < s.size) (hb : 128 ≤ (s.data.toList[pos]'(by simpa using h)).toNat) :
    ∃ n, (Utf8.decode s pos).2 = n ∧ 1 ≤ n ∧ pos + n ≤ s.size ∧ ∀ j (hj : j < s.data.toList.length), pos ≤ j → j < pos + n → 128 ≤ s.data.toList[j].toNat := by
  have h0 : (s.get! pos).toNat = (s.data.toList[pos]'(by simpa using h)).toNat := by rw [getE h]
  rw [Lib.decode_at]
  generalize hc0 : (s.get! pos).toNat = b0 at h0
  generalize hc1 : (s.get! (pos + 1)).toNat = b1
  generalize hc2 : (s.get! (pos + 2)).toNat = b2
  generalize hc3 : (s.get! (pos + 3)).toNat = b3
  have hone : ∀ n, n = 1 → 1 ≤ n ∧ pos + n ≤ s.size ∧ ∀ j (hj : j < s.data.toList.length), pos ≤ j → j < pos + n → 128 ≤ s.data.toList[j].toNat := by
    rintro n rfl
    refine ⟨by omega, by omega, fun j hj h1 h2 => ?_⟩
    obtain rfl : j = pos := by omega
    exact hb
  have hat : ∀ k, pos + k < s.size → 128 ≤ (s.get! (pos + k)).toNat → ∀ j (hj : j < s.data.toList.length), j = pos + k → 128 ≤ s.data.toList[j].toNat := by
    rintro k hk h1 j hj rfl
    rw [getE hk] at h1
    exact h1
  refine ⟨_, rfl, ?_⟩
  unfold Lib.decodeN
  rw [if_neg (by omega)]
  split
  · rename_i hx
    split
    · refine ⟨by simp, by simp only; omega, fun j hj h1 h2 => ?_⟩
      simp only at h2
      rcases (by omega : j = pos ∨ j = pos + 1) with rfl | e
      · exact hb
      · exact hat 1 (by omega) (by omega) j hj e
    · exact hone _ rfl
  · split
    · rename_i hx
      split
      · refine ⟨by simp, by simp only; omega, fun j hj h1 h2 => ?_⟩
        simp only at h2
        rcases (by omega : j = pos ∨ j = pos + 1 ∨ j = pos + 2) with rfl | e | e
        · exact hb
        · exact hat 1 (by omega) (by omega) j hj e
        · exact hat 2 (by omega) (by omega) j hj e
      · exact hone _ rfl
    · split
      · rename_i hx
        split
        · refine ⟨by simp, by simp only; omega, fun j hj h1 h2 => ?_⟩
          simp only at h2
          rcases (by omega : j = pos ∨ j = pos + 1 ∨ j = pos + 2 ∨ j = pos + 3) with rfl | e | e | e
          · exact hb
          · exact hat 1 (by omega) (by omega) j hj e
          · exact hat 2 (by omega) (by omega) j hj e
          · exact hat 3 (by omega) (by omega) j hj e
        · exact hone _ rfl
      · exact hone _ rfl
/-- a step of the range: what the bytes come to -/
theorem lex_step (s : ByteArray) (pos : Nat) (st : St) (h : pos < s.size) (hl : lexGo st0 (s.data.toList.take pos) = .inr st) :
    (takeF st (Utf8.decode s pos).1 = none → lexGo st0 (s.data.toList ++ [10]) = .inl st.ln) ∧
    (∀ st', takeF st (Utf8.decode s pos).1 = some st' → lexGo st0 (s.data.toList.take (pos + (Utf8.decode s pos).2)) = .inr st' ∧ pos < pos + (Utf8.decode s pos).2 ∧ pos + (Utf8.decode s pos).2 ≤ s.size) := by
  have hlt : pos < s.data.toList.length := by simpa using h
  have hcut : s.data.toList ++ [10] = s.data.toList.take pos ++ (s.data.toList[pos] :: (s.data.toList.drop (pos + 1) ++ [10])) := by
    rw [← List.cons_append, ← List.drop_eq_getElem_cons hlt, ← List.append_assoc, List.take_append_drop]
  by_cases hb : s.data.toList[pos].toNat < 128
  · have hd : Utf8.decode s pos = (s.data.toList[pos].toNat, 1) := by
      have e : s[pos]'h = s.data.toList[pos] := by rw [Array.getElem_toList]; rfl
      rw [decode_ascii s pos h (by rw [e]; exact hb), e]
    rw [hd]
    simp only
    refine ⟨fun hn => ?_, fun st' hs => ⟨?_, by omega, by omega⟩⟩
    · rw [hcut, lexGo_append, hl]
      simp only [lexGo, hn]
    · rw [List.take_succ_eq_append_getElem hlt, lexGo_append, hl]
      simp only [lexGo, hs]
  · have hb' : 128 ≤ s.data.toList[pos].toNat := by omega
    have hhi : 128 ≤ (Utf8.decode s pos).1 := by
      have e : s[pos]'h = s.data.toList[pos] := by rw [Array.getElem_toList]; rfl
      exact (decode_high s pos h (by rw [e]; exact hb')).1
    obtain ⟨n, hn, hn1, hn2, hall⟩ := decode_span s pos h hb'
    rw [hn, takeF_high (by omega)]
    refine ⟨fun hx => ?_, fun st' hx => ?_⟩
    · split at hx
      · cases hx
      · rename_i h1
        rw [hcut, lexGo_append, hl]
        simp only [lexGo]
        rw [takeF_high (by omega), if_neg h1]
    · split at hx
      · rename_i h1
        obtain rfl := Option.some.inj hx
        refine ⟨?_, by omega, hn2⟩
        rw [List.take_add, lexGo_append, hl]
        refine lexGo_high h1 _ fun b hbm => ?_
        obtain ⟨j, hj, rfl⟩ := List.getElem_of_mem hbm
        simp only [List.length_take, List.length_drop] at hj
        simp only [List.getElem_take, List.getElem_drop]
        exact hall (pos + j) (by omega) (by omega) (by omega)
      · cases hx
end Go.Proofs.YtnhogbgnnnniaaaDoor.L3
