/-
  A text behind another one, plainly: the same tokens, lines counted on.
-/
import Derived.Test.YtdpagipbaddnfaaDoorL3Awake
namespace Go.Proofs.YtdpagipbaddnfaaDoor.L3
open Go.RowKit

theorem goY {st st' : St} {b : UInt8} {z : Int} {r : List UInt8} (hz : (b.toNat : Int) = z) (h : takeF st z = some st') : lexGo st (b :: r) = lexGo st' r := by
  rw [← hz] at h
  simp only [lexGo, h]
theorem goN {st : St} {b : UInt8} {z : Int} {r : List UInt8} (hz : (b.toNat : Int) = z) (h : takeF st z = none) : lexGo st (b :: r) = .inl st.ln := by
  rw [← hz] at h
  simp only [lexGo, h]
theorem open_snoc (T : List Tk) (t : Tk) : openT (T ++ [t]) = (t.k != 4) := by simp [openT]
def Tk.on (off : Int) (t : Tk) : Tk := ⟨t.k, t.s, t.n, t.l + off⟩
theorem openT_on {a b X : List Tk} {off : Int} (ha : openT a = false) (hb : openT b = false) : openT (a ++ X.map (Tk.on off)) = openT (b ++ X) := by
  rcases List.eq_nil_or_concat X with rfl | ⟨Y, t, rfl⟩
  · simp [ha, hb]
  · rw [List.concat_eq_append, List.map_append, ← List.append_assoc, ← List.append_assoc, List.map_cons, List.map_nil, open_snoc, open_snoc]
    rfl
/-- two readers alike but for what lies ahead of their tokens, and their lines -/
structure Sh (a b : List Tk) (off : Int) (st st' : St) : Prop where
  toks : ∃ X, st.T = b ++ X ∧ st'.T = a ++ X.map (Tk.on off)
  ln : st'.ln = st.ln + off
  ins : st'.ins = st.ins
  ws : st'.ws = st.ws
  num : st'.num = st.num
  sg : ¬ (st.ins = 0 ∨ st.ins = 1 ∨ st.ins = 2) → st'.sg = st.sg
section
variable {a b : List Tk} {off : Int} {st st' : St}
theorem Sh.push (h : Sh a b off st st') (t : Tk) : ∃ X, st.T ++ [t] = b ++ X ∧ st'.T ++ [Tk.on off t] = a ++ X.map (Tk.on off) := by
  obtain ⟨X, h1, h2⟩ := h.toks
  exact ⟨X ++ [t], by rw [h1, List.append_assoc], by rw [h2, List.append_assoc, List.map_append]; rfl⟩
theorem Sh.fin (h : Sh a b off st st') : (finF st = none ∧ finF st' = none) ∨ ∃ s s', finF st = some s ∧ finF st' = some s' ∧ Sh a b off s s' ∧ s.ins = 0 := by
  unfold finF
  rw [h.ins]
  by_cases h3 : st.ins = 3
  · exact .inl ⟨if_pos h3, if_pos h3⟩
  · rw [if_neg h3, if_neg h3]
    by_cases h2 : st.ins = 2
    · rw [if_pos h2, if_pos h2]
      have := h.push ⟨1, st.ws, 0, st.ln⟩
      exact .inr ⟨_, _, rfl, rfl, ⟨by rw [h.ws, h.ln]; exact this, h.ln, rfl, rfl, h.num, fun hx => by simp at hx⟩, rfl⟩
    · rw [if_neg h2, if_neg h2]
      by_cases h4 : st.ins = 4
      · rw [if_pos h4, if_pos h4]
        have := h.push ⟨2, [], st.num, st.ln⟩
        exact .inr ⟨_, _, rfl, rfl, ⟨by rw [h.num, h.ln]; exact this, h.ln, rfl, h.ws, rfl, fun hx => by simp at hx⟩, rfl⟩
      · rw [if_neg h4, if_neg h4]
        exact .inr ⟨_, _, rfl, rfl, ⟨h.toks, h.ln, rfl, h.ws, h.num, fun hx => by simp at hx⟩, rfl⟩
theorem Sh.oth (ha : openT a = false) (hb : openT b = false) (h : Sh a b off st st') (c : Int) : (othF st c = none ∧ othF st' c = none) ∨ ∃ s s', othF st c = some s ∧ othF st' c = some s' ∧ Sh a b off s s' := by
  unfold othF
  by_cases hbl : c = 32 ∨ c = 9 ∨ c = 13
  · rw [if_pos hbl, if_pos hbl]
    exact .inr ⟨_, _, rfl, rfl, h⟩
  · rw [if_neg hbl, if_neg hbl]
    by_cases h10 : c = 10
    · rw [if_pos h10, if_pos h10]
      refine .inr ⟨_, _, rfl, rfl, ⟨?_, ?_, h.ins, h.ws, h.num, h.sg⟩⟩
      · obtain ⟨X, h1, h2⟩ := h.toks
        simp only [St.endL]
        rw [h1, h2, openT_on ha hb]
        split
        · exact ⟨X ++ [⟨4, [], 0, st.ln⟩], by rw [List.append_assoc], by rw [List.append_assoc, List.map_append, h.ln]; rfl⟩
        · exact ⟨X, rfl, rfl⟩
      · simp only [St.endL, h.ln]
        omega
    · rw [if_neg h10, if_neg h10]
      by_cases h35 : c = 35
      · rw [if_pos h35, if_pos h35]
        exact .inr ⟨_, _, rfl, rfl, ⟨h.toks, h.ln, rfl, h.ws, h.num, fun hx => by simp at hx⟩⟩
      · rw [if_neg h35, if_neg h35]
        by_cases h45 : c = 45
        · rw [if_pos h45, if_pos h45]
          exact .inr ⟨_, _, rfl, rfl, ⟨h.toks, h.ln, rfl, h.ws, h.num, fun _ => rfl⟩⟩
        · rw [if_neg h45, if_neg h45]
          by_cases hs : c = 58 ∨ c = 44
          · rw [if_pos hs, if_pos hs]
            have := h.push ⟨3, [byteOf c], 0, st.ln⟩
            exact .inr ⟨_, _, rfl, rfl, ⟨by rw [h.ln]; exact this, h.ln, h.ins, h.ws, h.num, h.sg⟩⟩
          · rw [if_neg hs, if_neg hs]
            exact .inl ⟨rfl, rfl⟩
theorem Sh.take (ha : openT a = false) (hb : openT b = false) (h : Sh a b off st st') (c : Int) : (takeF st c = none ∧ takeF st' c = none) ∨ ∃ s s', takeF st c = some s ∧ takeF st' c = some s' ∧ Sh a b off s s' := by
  unfold takeF
  rw [h.ins]
  by_cases h1 : st.ins = 1 ∧ c ≠ 10
  · rw [if_pos h1, if_pos h1]
    exact .inr ⟨_, _, rfl, rfl, h⟩
  · rw [if_neg h1, if_neg h1]
    by_cases hl : 97 ≤ c ∧ c ≤ 122
    · rw [if_pos hl, if_pos hl]
      unfold letF
      rw [h.ins]
      by_cases h3 : st.ins = 3 ∨ st.ins = 4
      · rw [if_pos h3, if_pos h3]
        exact .inl ⟨rfl, rfl⟩
      · rw [if_neg h3, if_neg h3]
        exact .inr ⟨_, _, rfl, rfl, ⟨h.toks, h.ln, rfl, by rw [h.ws], h.num, fun hx => by simp at hx⟩⟩
    · rw [if_neg hl, if_neg hl]
      by_cases hd : 48 ≤ c ∧ c ≤ 57
      · rw [if_pos hd, if_pos hd]
        unfold digF
        rw [h.ins]
        by_cases h2 : st.ins = 2
        · rw [if_pos h2, if_pos h2]
          exact .inl ⟨rfl, rfl⟩
        · rw [if_neg h2, if_neg h2, h.num]
          by_cases h01 : st.ins = 1
          · exact absurd ⟨h01, by omega⟩ h1
          · have hsg : sgF st' = sgF st := by
              unfold sgF
              rw [h.ins]
              split
              · rfl
              · exact h.sg (by omega)
            rw [hsg]
            split
            · exact .inr ⟨_, _, rfl, rfl, ⟨h.toks, h.ln, rfl, h.ws, rfl, fun _ => rfl⟩⟩
            · exact .inl ⟨rfl, rfl⟩
      · rw [if_neg hd, if_neg hd]
        rcases h.fin with ⟨e1, e2⟩ | ⟨s, s', e1, e2, hs, -⟩
        · rw [e1, e2]
          exact .inl ⟨rfl, rfl⟩
        · rw [e1, e2]
          exact hs.oth ha hb c
theorem Sh.go (ha : openT a = false) (hb : openT b = false) : ∀ (l : List UInt8) (st st' : St), Sh a b off st st' →
    (∃ x, lexGo st l = .inl x ∧ lexGo st' l = .inl (x + off)) ∨ ∃ s s', lexGo st l = .inr s ∧ lexGo st' l = .inr s' ∧ Sh a b off s s'
  | [], st, st', h => .inr ⟨st, st', rfl, rfl, h⟩
  | c :: r, st, st', h => by
    rcases h.take ha hb c.toNat with ⟨e1, e2⟩ | ⟨s, s', e1, e2, hs⟩
    · exact .inl ⟨st.ln, goN rfl e1, by rw [goN rfl e2, h.ln]⟩
    · rw [goY rfl e1, goY rfl e2]
      exact Sh.go ha hb r s s' hs
end
/-- what a reader holds between tokens -/
structure Cl (st : St) : Prop where
  ws : st.ins ≠ 2 → st.ws = []
  num : st.ins ≠ 4 → st.num = 0
theorem cl0 : Cl st0 := ⟨fun _ => rfl, fun _ => rfl⟩
theorem Cl.fin {st s : St} (h : Cl st) (hf : finF st = some s) : s.ins = 0 ∧ s.ws = [] ∧ s.num = 0 ∧ s.ln = st.ln := by
  unfold finF at hf
  split at hf
  · cases hf
  · split at hf
    · rename_i h2
      obtain rfl := Option.some.inj hf
      exact ⟨rfl, rfl, h.num (by omega), rfl⟩
    · split at hf
      · rename_i h4
        obtain rfl := Option.some.inj hf
        exact ⟨rfl, h.ws (by omega), rfl, rfl⟩
      · rename_i h2 h4
        obtain rfl := Option.some.inj hf
        exact ⟨rfl, h.ws h2, h.num h4, rfl⟩
/-- lines a byte makes -/
def tenI (c : Int) : Int := if c = 10 then 1 else 0
theorem Cl.take {st s : St} {c : Int} (h : Cl st) (hf : takeF st c = some s) : Cl s ∧ s.ln = st.ln + tenI c := by
  unfold takeF at hf
  split at hf
  · rename_i hc
    obtain rfl := Option.some.inj hf
    exact ⟨h, by rw [tenI, if_neg hc.2]; omega⟩
  · split at hf
    · rename_i h1 hc
      unfold letF at hf
      split at hf
      · cases hf
      · rename_i h34
        obtain rfl := Option.some.inj hf
        exact ⟨⟨fun hx => absurd rfl hx, fun _ => h.num (by omega)⟩, by rw [tenI, if_neg (by omega)]; simp⟩
    · split at hf
      · rename_i h1 h2 hc
        unfold digF at hf
        split at hf
        · cases hf
        · rename_i hi
          split at hf
          · obtain rfl := Option.some.inj hf
            exact ⟨⟨fun _ => h.ws hi, fun hx => absurd rfl hx⟩, by rw [tenI, if_neg (by omega)]; simp⟩
          · cases hf
      · cases hs : finF st with
        | none => rw [hs] at hf; cases hf
        | some s1 =>
          rw [hs] at hf
          obtain ⟨q0, q1, q2, q3⟩ := h.fin hs
          have hf2 : othF s1 c = some s := hf
          unfold othF at hf2
          rw [← q3]
          split at hf2
          · rename_i hb
            obtain rfl := Option.some.inj hf2
            exact ⟨⟨fun _ => q1, fun _ => q2⟩, by rw [tenI, if_neg (by omega)]; simp⟩
          · split at hf2
            · rename_i h10
              obtain rfl := Option.some.inj hf2
              exact ⟨⟨fun _ => q1, fun _ => q2⟩, by rw [tenI, if_pos h10]; rfl⟩
            · rename_i h10
              split at hf2
              · obtain rfl := Option.some.inj hf2
                exact ⟨⟨fun _ => q1, fun _ => q2⟩, by rw [tenI, if_neg h10]; simp⟩
              · split at hf2
                · obtain rfl := Option.some.inj hf2
                  exact ⟨⟨fun _ => q1, fun _ => q2⟩, by rw [tenI, if_neg h10]; simp⟩
                · split at hf2
                  · obtain rfl := Option.some.inj hf2
                    exact ⟨⟨fun _ => q1, fun _ => q2⟩, by rw [tenI, if_neg h10]; simp⟩
                  · cases hf2
def tens : List UInt8 → Nat
  | [] => 0
  | c :: r => (if c = 10 then 1 else 0) + tens r
theorem ten_byte (c : UInt8) : tenI c.toNat = ((if c = 10 then 1 else 0 : Nat) : Int) := by
  unfold tenI
  by_cases h : c = 10
  · subst h; rfl
  · have : ¬ ((c.toNat : Int) = 10) := fun e => h (by apply UInt8.toNat.inj; simpa using (by omega : c.toNat = 10))
    rw [if_neg this, if_neg h]
    rfl
theorem Cl.go : ∀ (l : List UInt8) (st s : St), Cl st → lexGo st l = .inr s → Cl s ∧ s.ln = st.ln + (tens l : Int)
  | [], st, s, h, hl => by
    cases hl
    exact ⟨h, by simp [tens]⟩
  | c :: r, st, s, h, hl => by
    cases ht : takeF st (c.toNat : Int) with
    | none => rw [goN rfl ht] at hl; cases hl
    | some s1 =>
      rw [goY rfl ht] at hl
      obtain ⟨h1, e1⟩ := h.take ht
      obtain ⟨h2, e2⟩ := Cl.go r s1 s h1 hl
      refine ⟨h2, ?_⟩
      rw [e2, e1, ten_byte, tens]
      omega
/-- a line's end: what is left -/
theorem line_end {st s : St} (h : Cl st) (hf : takeF st 10 = some s) : s.ins = 0 ∧ s.ws = [] ∧ s.num = 0 ∧ openT s.T = false ∧ s.ln = st.ln + 1 := by
  rw [takeF_rest (fun h => h.2 rfl) (by omega) (by omega)] at hf
  cases hs : finF st with
  | none => rw [hs] at hf; cases hf
  | some s1 =>
    rw [hs] at hf
    obtain ⟨q0, q1, q2, q3⟩ := h.fin hs
    have hf2 : some s1.endL = some s := hf
    obtain rfl := Option.some.inj hf2
    refine ⟨q0, q1, q2, ?_, by rw [← q3]; rfl⟩
    simp only [St.endL]
    cases ho : openT s1.T with
    | true => rw [if_pos rfl, open_snoc]; rfl
    | false => simp [ho]
/-- two texts, a line's end between -/
theorem lex_parts (s t : List UInt8) (hs : s.length ≤ 1500) (ht : t.length ≤ 1500) :
    ((lexF s).2.2 ≠ 0 → (lexF (s ++ [10] ++ t)).2.2 = 3 ∧ (lexF (s ++ [10] ++ t)).1 = []) ∧
    ((lexF s).2.2 = 0 → (lexF t).2.2 ≠ 0 → (lexF (s ++ [10] ++ t)).2.2 = (lexF t).2.2 ∧ (lexF (s ++ [10] ++ t)).2.1 = (lexF t).2.1 + ((tens s : Int) + 1)) ∧
    ((lexF s).2.2 = 0 → (lexF t).2.2 = 0 → (lexF (s ++ [10] ++ t)).2.2 = 0 ∧ (lexF (s ++ [10] ++ t)).1 = (lexF s).1 ++ (lexF t).1.map (Tk.on ((tens s : Int) + 1))) := by
  have l1 : ¬ 8192 < s.length := by omega
  have l2 : ¬ 8192 < t.length := by omega
  have l3 : ¬ 8192 < (s ++ [10] ++ t).length := by simp; omega
  have e : lexGo st0 (s ++ [10] ++ t ++ [10]) = match lexGo st0 (s ++ [10]) with | .inl x => .inl x | .inr st' => lexGo st' (t ++ [10]) := by
    rw [List.append_assoc, lexGo_append]
    cases lexGo st0 (s ++ [10]) <;> rfl
  unfold lexF
  rw [if_neg l1, if_neg l2, if_neg l3, e]
  cases h1 : lexGo st0 (s ++ [10]) with
  | inl x =>
    exact ⟨fun _ => ⟨rfl, rfl⟩, fun h => absurd h (by simp), fun h => absurd h (by simp)⟩
  | inr s1 =>
    refine ⟨fun h => absurd rfl h, ?_⟩
    have hsplit := lexGo_append st0 s [10]
    rw [h1] at hsplit
    have hcl : s1.ins = 0 ∧ s1.ws = [] ∧ s1.num = 0 ∧ openT s1.T = false ∧ s1.ln = 1 + (tens s : Int) + 1 := by
      cases h0 : lexGo st0 s with
      | inl x => rw [h0] at hsplit; cases hsplit
      | inr s0 =>
        rw [h0] at hsplit
        obtain ⟨c0, n0⟩ := Cl.go s st0 s0 cl0 h0
        have hsplit2 : Sum.inr s1 = lexGo s0 [10] := hsplit
        cases h2 : takeF s0 10 with
        | none => rw [goN rfl h2] at hsplit2; cases hsplit2
        | some s2 =>
          rw [goY rfl h2] at hsplit2
          cases hsplit2
          obtain ⟨r1, r2, r3, r4, r5⟩ := line_end c0 h2
          exact ⟨r1, r2, r3, r4, by rw [r5, n0]; rfl⟩
    obtain ⟨r1, r2, r3, r4, r5⟩ := hcl
    have hSh : Sh s1.T [] ((tens s : Int) + 1) st0 s1 := ⟨⟨[], rfl, by simp⟩, by rw [r5]; simp only [st0]; omega, r1, r2, r3, fun hx => absurd (.inl rfl) hx⟩
    rcases Sh.go r4 rfl (t ++ [10]) st0 s1 hSh with ⟨x, e1, e2⟩ | ⟨u, u', e1, e2, hu⟩
    · simp only [e1, e2]
      exact ⟨fun _ _ => ⟨trivial, trivial⟩, fun _ h => absurd h (by simp)⟩
    · simp only [e1, e2]
      refine ⟨fun _ h => absurd rfl h, fun _ _ => ⟨trivial, ?_⟩⟩
      obtain ⟨X, x1, x2⟩ := hu.toks
      rw [x2, x1]
      rfl
end Go.Proofs.YtdpagipbaddnfaaDoor.L3