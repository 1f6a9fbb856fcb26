/-
  What lex hands on: no empty line, words no longer than the text.
-/
import Derived.Test.YtdpagipbaddnfaaDoorStm
namespace Go.Proofs.YtdpagipbaddnfaaDoor
open Go.RowKit L3

def opn (o : Bool) (T : List Tk) : Bool := match T.getLast? with | some t => t.k != 4 | none => o
theorem opn_false (T : List Tk) : opn false T = openT T := rfl
theorem opn_cons (o : Bool) (a : Tk) (T : List Tk) : opn o (a :: T) = opn (a.k != 4) T := by
  cases T with
  | nil => simp [opn]
  | cons b r =>
    unfold opn
    rw [List.getLast?_cons_cons, List.getLast?_eq_some_getLast (by simp)]
theorem goodT_snoc : ∀ (T : List Tk) (o : Bool) (t : Tk), goodT o T → (t.k = 4 → opn o T = true) → goodT o (T ++ [t])
  | [], o, t, _, h4 => by
    simp only [List.nil_append, goodT]
    split
    · exact ⟨by have := h4 (by assumption); simpa [opn] using this, trivial⟩
    · trivial
  | a :: T, o, t, h, h4 => by
    simp only [List.cons_append, goodT] at h ⊢
    split at h
    · rename_i ha
      rw [if_pos ha]
      refine ⟨h.1, goodT_snoc T false t h.2 fun e => ?_⟩
      have := h4 e
      rw [opn_cons, ha] at this
      exact this
    · rename_i ha
      rw [if_neg ha]
      refine goodT_snoc T true t h fun e => ?_
      have := h4 e
      rw [opn_cons, show (a.k != 4) = true by simpa using ha] at this
      exact this
/-- no empty line; words of at most m bytes -/
structure Gd (st : St) (m : Nat) : Prop where
  good : goodT false st.T
  word : ∀ t ∈ st.T, t.s.length ≤ m
theorem Gd.mono {st : St} {m m' : Nat} (h : Gd st m) (hm : m ≤ m') : Gd st m' := ⟨h.good, fun t ht => by have := h.word t ht; omega⟩
theorem Gd.add {T : List Tk} {m : Nat} (hg : goodT false T) (hw : ∀ t ∈ T, t.s.length ≤ m) (t : Tk) (h4 : t.k = 4 → openT T = true) (hs : t.s.length ≤ m) : goodT false (T ++ [t]) ∧ ∀ u ∈ T ++ [t], u.s.length ≤ m :=
  ⟨goodT_snoc T false t hg h4, fun u hu => by
    simp at hu
    rcases hu with hu | rfl
    · exact hw u hu
    · exact hs⟩
theorem Gd.fin {st s : St} {m : Nat} (h : Gd st m) (hb : Bd st m) (hf : finF st = some s) : Gd s m := by
  unfold finF at hf
  split at hf
  · cases hf
  · split at hf
    · obtain rfl := Option.some.inj hf
      have := Gd.add h.good h.word ⟨1, st.ws, 0, st.ln⟩ (by simp) hb.wd
      exact ⟨this.1, this.2⟩
    · split at hf
      · obtain rfl := Option.some.inj hf
        have := Gd.add h.good h.word ⟨2, [], st.num, st.ln⟩ (by simp) (by simp)
        exact ⟨this.1, this.2⟩
      · obtain rfl := Option.some.inj hf
        exact ⟨h.good, h.word⟩
theorem Gd.oth {st s : St} {m : Nat} {c : Int} (h : Gd st m) (hf : othF st c = some s) : Gd s (m + 1) := by
  have h' := h.mono (Nat.le_succ m)
  unfold othF at hf
  split at hf
  · obtain rfl := Option.some.inj hf
    exact h'
  · split at hf
    · obtain rfl := Option.some.inj hf
      by_cases ho : openT st.T = true
      · have := Gd.add h'.good h'.word ⟨4, [], 0, st.ln⟩ (fun _ => ho) (by simp)
        exact ⟨by simpa [St.endL, ho] using this.1, by simpa [St.endL, ho] using this.2⟩
      · exact ⟨by simpa [St.endL, ho] using h'.good, by simpa [St.endL, ho] using h'.word⟩
    · split at hf
      · obtain rfl := Option.some.inj hf
        exact ⟨h'.good, h'.word⟩
      · split at hf
        · obtain rfl := Option.some.inj hf
          exact ⟨h'.good, h'.word⟩
        · split at hf
          · obtain rfl := Option.some.inj hf
            have := Gd.add h'.good h'.word ⟨3, [L3.byteOf c], 0, st.ln⟩ (by simp) (by simp)
            exact ⟨this.1, this.2⟩
          · cases hf
theorem Gd.take {st s : St} {m : Nat} {c : Int} (h : Gd st m) (hb : Bd st m) (hf : takeF st c = some s) : Gd s (m + 1) := by
  have h' := h.mono (Nat.le_succ m)
  unfold takeF at hf
  split at hf
  · obtain rfl := Option.some.inj hf
    exact h'
  · split at hf
    · unfold letF at hf
      split at hf
      · cases hf
      · obtain rfl := Option.some.inj hf
        exact ⟨h'.good, h'.word⟩
    · split at hf
      · unfold digF at hf
        split at hf
        · cases hf
        · split at hf
          · obtain rfl := Option.some.inj hf
            exact ⟨h'.good, h'.word⟩
          · cases hf
      · cases hs : finF st with
        | none => rw [hs] at hf; cases hf
        | some s1 =>
          rw [hs] at hf
          exact (h.fin hb hs).oth hf
theorem Gd.go : ∀ (l : List UInt8) (st s : St) (m : Nat), Gd st m → Bd st m → lexGo st l = .inr s → Gd s (m + l.length)
  | [], st, s, m, h, _, hl => by cases hl; simpa using h
  | x :: r, st, s, m, h, hb, hl => by
    simp only [lexGo] at hl
    cases ht : takeF st x.toNat with
    | none => rw [ht] at hl; cases hl
    | some s1 =>
      rw [ht] at hl
      have := Gd.go r s1 s (m + 1) (h.take hb ht) (takeF_bd hb ht) hl
      rw [List.length_cons, show m + (r.length + 1) = m + 1 + r.length by omega]
      exact this
theorem lexF_good (l : List UInt8) : goodT false (lexF l).1 ∧ ∀ t ∈ (lexF l).1, t.s.length ≤ 9000 := by
  unfold lexF
  split
  · exact ⟨trivial, by simp⟩
  · split
    · exact ⟨trivial, by simp⟩
    · rename_i st hst
      have h := Gd.go _ st0 st 0 ⟨trivial, by simp [st0]⟩ st0_bd hst
      exact ⟨h.good, fun t ht => by have := h.word t ht; simp at this; omega⟩
theorem lexF_toks (l : List UInt8) : ∀ t ∈ (lexF l).1, t.s.length ≤ 9000 ∧ 1 ≤ t.l ∧ t.l ≤ 9000 := fun t ht => ⟨(lexF_good l).2 t ht, lexF_lines l t ht⟩
end Go.Proofs.YtdpagipbaddnfaaDoor
