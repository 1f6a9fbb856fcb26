/-
  The document's small program: awake.
-/
import Derived.Test.YtdpagipbaddnfaaDoorParse
import Derived.Test.YtdpagipbaddnfaaDoorShP
namespace Go.Proofs.YtdpagipbaddnfaaDoor
open Go.RowKit L3
open C2 (In Pr SlF SlI InsAt Tab)

/-- a program's functions in memory, opened -/
theorem slF_at {w : World} {fa : Option Addr} {fl fc : Nat} {fs : List (List In)} (h : SlF w (.slice fa fl fc) fs) : fl = fs.length ∧ ∀ k (_ : k < fs.length), ∃ g f ia ic, fa = some ⟨g, f, none⟩ ∧ w.cell? ⟨g, f + k, none⟩ = some (.slice ia fs[k].length ic) ∧ SlI w (.slice ia fs[k].length ic) fs[k] := by
  obtain ⟨a, c, e, hk⟩ := h
  simp at e
  obtain ⟨rfl, rfl, rfl⟩ := e
  refine ⟨rfl, fun k hk' => ?_⟩
  obtain ⟨g, f, u, e2, hc, hi⟩ := hk k hk'
  have hi2 := hi
  obtain ⟨ia, ic, rfl, _⟩ := hi2
  exact ⟨g, f, ia, ic, e2, hc, hi⟩
theorem slI_at {w : World} {a : Option Addr} {n c : Nat} {xs : List In} (h : SlI w (.slice a n c) xs) : ∀ k (_ : k < xs.length), ∃ g f, a = some ⟨g, f, none⟩ ∧ InsAt w g (f + k * 4) xs[k] := by
  obtain ⟨a', c', e, hk⟩ := h
  simp at e
  obtain ⟨rfl, rfl, rfl⟩ := e
  exact hk
set_option maxRecDepth 4000 in
theorem awake_any (w : World) (hT : Tab w) (hF : FTab w) : Calls Tryd.prog 9 #[] w fun e w' => e = .returned (.bool true) ∧ Below w.heap.size w w' := by
  have h1 := Parse_any (headS ++ ret0S) w hT hF
  have H1 : Hid (Calls Tryd.prog 10 #[.string ⟨#[102, 117, 116, 117, 114, 101, 115, 32, 48, 10, 100, 101, 112, 116, 104, 32, 48, 10, 102, 117, 101, 108, 32, 49, 10, 102, 117, 110, 99, 116, 105, 111, 110, 10, 114, 101, 116, 32, 48, 10]⟩] w fun e w' => ParsePost (headS ++ ret0S) w e w') := h1
  clear h1
  go_enter Tryd.func9, Tryd.ntmps9
  go_wp2_with fail
  refine H1.out.mono ?_
  rintro e w1 ⟨fa, fl, fc, he, hS, hb⟩
  rw [awake_parse] at he hS
  simp only at he hS
  subst he
  obtain ⟨rfl, hk⟩ := slF_at hS
  obtain ⟨g, f, ia, ic, rfl, c0, hI⟩ := hk 0 (by simp)
  obtain ⟨g2, f2, rfl, hi⟩ := slI_at hI 0 (by simp)
  have c1 := hi.c0
  simp at c0 c1
  have hg := block_lt_of_cell c0
  have hg2 := block_lt_of_cell c1
  have HB : Hid (Below w.heap.size w w1) := hb
  clear H1 hk hS hI hi hb
  simp only [List.length_cons, List.length_nil]
  go_wp2_with fail
  go_ret
  exact ⟨rfl, below_alloc HB.out _⟩
end Go.Proofs.YtdpagipbaddnfaaDoor
