/-
  All over a list of bytes; the document's example.
-/
import Derived.Test.YtdpagipbaddnfaaDoorL3All
namespace Go.Proofs.YtdpagipbaddnfaaDoor.L3
open Go.RowKit

/-- what All answers at the bytes l -/
def LexPost (l : List UInt8) (w : World) (e : Ending) (w' : World) : Prop :=
  ∃ ta tc, e = .returned (.tuple #[.slice ta (lexF l).1.length tc, .int .i64 (lexF l).2.1, .int .i64 (lexF l).2.2]) ∧ SlT w' (.slice ta (lexF l).1.length tc) (lexF l).1 ∧ Below w.heap.size w w'
theorem All_l {l : List UInt8} {s : ByteArray} (hs : s = strB l) (w : World) : Calls Tryd.prog 20 #[.string s] w fun e w' => LexPost l w e w' := by
  subst hs
  refine (All_any (strB l) w).mono ?_
  rintro e w' ⟨tv, he, hS, hb, _⟩
  rw [strB_data] at he hS
  have hS' := hS
  obtain ⟨ta, tc, rfl, -⟩ := hS'
  exact ⟨ta, tc, he, hS, hb⟩
/-- as LexPost, and the slice's room -/
def LexPostC (l : List UInt8) (w : World) (e : Ending) (w' : World) : Prop :=
  ∃ ta tc, e = .returned (.tuple #[.slice ta (lexF l).1.length tc, .int .i64 (lexF l).2.1, .int .i64 (lexF l).2.2]) ∧ SlT w' (.slice ta (lexF l).1.length tc) (lexF l).1 ∧ Below w.heap.size w w' ∧ (lexF l).1.length ≤ tc ∧ tc ≤ maxLen
theorem All_c {l : List UInt8} {s : ByteArray} (hs : s = strB l) (w : World) : Calls Tryd.prog 20 #[.string s] w fun e w' => LexPostC l w e w' := by
  subst hs
  refine (All_any (strB l) w).mono ?_
  rintro e w' ⟨tv, he, hS, hb, hc⟩
  rw [strB_data] at he hS
  have hS' := hS
  obtain ⟨ta, tc, rfl, -⟩ := hS'
  exact ⟨ta, tc, he, hS, hb, hc _ _ _ rfl⟩
theorem below_then {w w1 w2 : World} (h : Below w.heap.size w w1) (h2 : Below w1.heap.size w1 w2) : Below w.heap.size w w2 := h.trans (h2.mono h.size)
theorem below_alloc {w w1 : World} (h : Below w.heap.size w w1) (o : Obj) : Below w.heap.size w (w1.alloc o) := h.alloc h.size _
theorem lex_a5 : lexF [97, 32, 53] = ([⟨1, [97], 0, 1⟩, ⟨2, [], 5, 1⟩, ⟨4, [], 0, 1⟩], 0, 0) := by rfl
end Go.Proofs.YtdpagipbaddnfaaDoor.L3