/-
  All over a list of bytes; the document's example.
-/
import Derived.Test.YtphkplliecfmjaaAll
namespace Go.Proofs.Ytphkplliecfmjaa
open Go.RowKit

/-- what All answers at the bytes l -/
def LexPost (l : List UInt8) (w : World) (e : Ending) (w' : World) : Prop :=
  ∃ ta tc, e = .returned (.tuple #[.slice ta (lexF l).1.length tc, .int .i64 (lexF l).2.1, .int .i64 (lexF l).2.2]) ∧ SlT w' (.slice ta (lexF l).1.length tc) (lexF l).1 ∧ Below w.heap.size w w'
theorem All_l {l : List UInt8} {s : ByteArray} (hs : s = strB l) (w : World) : Calls Try.prog 8 #[.string s] w fun e w' => LexPost l w e w' := by
  subst hs
  refine (All_any (strB l) w).mono ?_
  rintro e w' ⟨tv, he, hS, hb⟩
  rw [strB_data] at he hS
  have hS' := hS
  obtain ⟨ta, tc, rfl, -⟩ := hS'
  exact ⟨ta, tc, he, hS, hb⟩
theorem below_then {w w1 w2 : World} (h : Below w.heap.size w w1) (h2 : Below w1.heap.size w1 w2) : Below w.heap.size w w2 := h.trans (h2.mono h.size)
theorem below_alloc {w w1 : World} (h : Below w.heap.size w w1) (o : Obj) : Below w.heap.size w (w1.alloc o) := h.alloc h.size _
theorem lex_a5 : lexF [97, 32, 53] = ([⟨1, [97], 0, 1⟩, ⟨2, [], 5, 1⟩, ⟨4, [], 0, 1⟩], 0, 0) := by rfl
theorem awake_any (w : World) : Calls Try.prog 10 #[] w fun e w' => e = .returned (.bool true) ∧ Below w.heap.size w w' := by
  have h1 := All_l (l := [97, 32, 53]) (s := ⟨#[97, 32, 53]⟩) rfl w
  have H1 : Hid (Calls Try.prog 8 #[.string ⟨#[97, 32, 53]⟩] w fun e w' => LexPost [97, 32, 53] w e w') := h1
  clear h1
  go_enter Try.func10, Try.ntmps10
  go_wp2_with fail
  refine H1.out.mono ?_
  rintro e w1 ⟨ta, tc, he, hS, hb⟩
  rw [lex_a5] at he hS
  subst he
  obtain ⟨a, c, e1, hk⟩ := hS
  obtain ⟨g, f, e2, t0⟩ := hk 0 (by simp)
  obtain ⟨rfl, rfl⟩ : ta = a ∧ tc = c := by simp at e1; exact ⟨e1.1, e1.2⟩
  subst e2
  obtain ⟨g1, f1, e3, t1⟩ := hk 1 (by simp)
  obtain ⟨rfl, rfl⟩ : g = g1 ∧ f = f1 := by simp at e3; exact ⟨e3.1, e3.2⟩
  obtain ⟨g2, f2, e4, t2⟩ := hk 2 (by simp)
  obtain ⟨rfl, rfl⟩ : g = g2 ∧ f = f2 := by simp at e4; exact ⟨e4.1, e4.2⟩
  have k0 := t0.k
  have k1 := t1.k
  have n1 := t1.n
  have k2 := t2.k
  simp at k0 k1 n1 k2
  clear e1 e3 e4 hk t0 t1 t2
  simp only [List.length_cons, List.length_nil]
  go_wp2_with fail
  go_ret
  exact ⟨rfl, hb⟩
end Go.Proofs.Ytphkplliecfmjaa
