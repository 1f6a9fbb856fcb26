/-
  Lines of tokens are small; tokens in memory.
-/
import Derived.Test.YtdpagipbaddnfaaDoorL3Shift
namespace Go.Proofs.YtdpagipbaddnfaaDoor.L3
open Go.RowKit

structure Ln (st : St) : Prop where
  one : 1 ≤ st.ln
  all : ∀ t ∈ st.T, 1 ≤ t.l ∧ t.l ≤ st.ln
theorem Ln.add {T : List Tk} {ln : Int} (h1 : 1 ≤ ln) (h : ∀ t ∈ T, 1 ≤ t.l ∧ t.l ≤ ln) (k n : Int) (s : List UInt8) : ∀ t ∈ T ++ [⟨k, s, n, ln⟩], 1 ≤ t.l ∧ t.l ≤ ln := fun t ht => by
  simp at ht
  rcases ht with ht | rfl
  · exact h t ht
  · exact ⟨h1, Int.le_refl _⟩
theorem Ln.fin {st s : St} (h : Ln st) (hf : finF st = some s) : Ln s := by
  unfold finF at hf
  split at hf
  · cases hf
  · split at hf
    · obtain rfl := Option.some.inj hf
      exact ⟨h.one, Ln.add h.one h.all _ _ _⟩
    · split at hf
      · obtain rfl := Option.some.inj hf
        exact ⟨h.one, Ln.add h.one h.all _ _ _⟩
      · obtain rfl := Option.some.inj hf
        exact ⟨h.one, h.all⟩
theorem Ln.oth {st s : St} {c : Int} (h : Ln st) (hf : othF st c = some s) : Ln s := by
  unfold othF at hf
  split at hf
  · obtain rfl := Option.some.inj hf
    exact h
  · split at hf
    · obtain rfl := Option.some.inj hf
      refine ⟨by have := h.one; simp only [St.endL]; omega, fun t ht => ?_⟩
      simp only [St.endL] at ht ⊢
      have : 1 ≤ t.l ∧ t.l ≤ st.ln := by
        split at ht
        · exact Ln.add h.one h.all _ _ _ t ht
        · exact h.all t ht
      omega
    · split at hf
      · obtain rfl := Option.some.inj hf
        exact ⟨h.one, h.all⟩
      · split at hf
        · obtain rfl := Option.some.inj hf
          exact ⟨h.one, h.all⟩
        · split at hf
          · obtain rfl := Option.some.inj hf
            exact ⟨h.one, Ln.add h.one h.all _ _ _⟩
          · cases hf
theorem Ln.take {st s : St} {c : Int} (h : Ln st) (hf : takeF st c = some s) : Ln s := by
  unfold takeF at hf
  split at hf
  · obtain rfl := Option.some.inj hf
    exact h
  · split at hf
    · unfold letF at hf
      split at hf
      · cases hf
      · obtain rfl := Option.some.inj hf
        exact ⟨h.one, h.all⟩
    · split at hf
      · unfold digF at hf
        split at hf
        · cases hf
        · split at hf
          · obtain rfl := Option.some.inj hf
            exact ⟨h.one, h.all⟩
          · cases hf
      · cases hs : finF st with
        | none => rw [hs] at hf; cases hf
        | some s1 =>
          rw [hs] at hf
          exact (h.fin hs).oth hf
theorem Ln.go : ∀ (l : List UInt8) (st s : St), Ln st → lexGo st l = .inr s → Ln s
  | [], st, s, h, hl => by cases hl; exact h
  | c :: r, st, s, h, hl => by
    cases ht : takeF st (c.toNat : Int) with
    | none => rw [goN rfl ht] at hl; cases hl
    | some s1 =>
      rw [goY rfl ht] at hl
      exact Ln.go r s1 s (h.take ht) hl
theorem told_line : ∀ (l : List UInt8) (st : St) (m : Nat) (x : Int), Bd st m → lexGo st l = .inl x → 1 ≤ x ∧ x ≤ m + l.length + 1
  | [], st, m, x, _, hl => by cases hl
  | c :: r, st, m, x, h, hl => by
    cases ht : takeF st (c.toNat : Int) with
    | none =>
      rw [goN rfl ht] at hl
      cases hl
      have h1 := h.ln1
      have h2 := h.ln2
      simp only [List.length_cons]
      omega
    | some s1 =>
      rw [goY rfl ht] at hl
      have := told_line r s1 (m + 1) x (takeF_bd h ht) hl
      simp only [List.length_cons]
      omega
theorem lexF_lines (l : List UInt8) : ∀ t ∈ (lexF l).1, 1 ≤ t.l ∧ t.l ≤ 9000 := by
  intro t ht
  unfold lexF at ht
  split at ht
  · simp at ht
  · rename_i hl
    cases hg : lexGo st0 (l ++ [10]) with
    | inl x => rw [hg] at ht; simp at ht
    | inr s =>
      rw [hg] at ht
      have h1 := (Ln.go _ _ _ ⟨by simp [st0], by simp [st0]⟩ hg).all t ht
      have h2 := (lexGo_bd _ st0_bd hg).ln2
      simp at h2
      omega
theorem lexF_line (l : List UInt8) : 0 ≤ (lexF l).2.1 ∧ (lexF l).2.1 ≤ 9000 := by
  unfold lexF
  split
  · simp
  · rename_i hl
    cases hg : lexGo st0 (l ++ [10]) with
    | inl x =>
      have := told_line _ _ _ _ st0_bd hg
      simp at this
      simp only
      omega
    | inr s => simp
theorem lexF_length (l : List UInt8) : (lexF l).1.length ≤ 20000 := by
  unfold lexF
  split
  · simp
  · rename_i hl
    cases hg : lexGo st0 (l ++ [10]) with
    | inl x => simp
    | inr s =>
      have := (lexGo_bd _ st0_bd hg).toks
      simp at this
      simp only
      omega
/-- a token of a slice, as its cells tell it, also behind one more block -/
theorem SlT.at {w : World} {ga : Option Addr} {gc : Nat} {T : List Tk} (h : SlT w (.slice ga T.length gc) T) {k : Nat} (hk : k < T.length) : ∃ g f, ga = some ⟨g, f, none⟩ ∧ TkAt w g (f + k * 4) T[k] := by
  obtain ⟨a, c, e, hx⟩ := h
  obtain ⟨rfl, rfl⟩ : ga = a ∧ gc = c := by simp at e; exact ⟨e.1, e.2⟩
  exact hx k hk
theorem TkAt.alloc {w : World} {g f : Nat} {t : Tk} (h : TkAt w g f t) (o : Obj) : TkAt (w.alloc o) g f t := by
  have st : ∀ {x : Addr} {u : Value}, w.cell? x = some u → (w.alloc o).cell? x = some u := fun {x} {u} hx => by
    rw [World.cell?_of_block (Below.heap_alloc _ _ _ (World.block_lt_of_cell? w x hx))]
    exact hx
  exact ⟨st h.k, st h.s, st h.n, st h.l⟩
end Go.Proofs.YtdpagipbaddnfaaDoor.L3