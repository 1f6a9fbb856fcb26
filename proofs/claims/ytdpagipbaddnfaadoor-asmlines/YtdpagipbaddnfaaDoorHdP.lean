/-
  AsmHeads, plainly: its texts, and what Parse comes to at them.
-/
import Derived.Test.YtdpagipbaddnfaaDoorParL
namespace Go.Proofs.YtdpagipbaddnfaaDoor
open Go.RowKit L3
open C2 (In Pr inB)

def sp1 : List UInt8 := [32]
theorem sp1_bl : Blanks sp1 := fun c hc => by simp [sp1] at hc; exact .inl hc
theorem word_letters : ∀ k, k < 20 → Letters (wordOf k) := by
  intro k hk c hc
  have : ∀ k, k < 20 → (wordOf k).all (fun c => decide (97 ≤ c.toNat) && decide (c.toNat ≤ 122)) = true := by decide
  have h := List.all_eq_true.1 (this k hk) c hc
  simpa using h
theorem word_ne (k : Nat) (h1 : 1 ≤ k) (h2 : k < 20) : wordOf k ≠ [] := by
  have : ∀ k, k < 20 → 1 ≤ k → wordOf k ≠ [] := by decide
  exact this k h2 h1
/-- the head's lines -/
def hl (k : Nat) (x : Int) : Line := wl sp1 [] (wordOf k) [x]
theorem hl_ok {k : Nat} {x : Int} (h1 : 1 ≤ k) (h2 : k < 20) (hx : inR x) : (hl k x).Ok := wl_ok sp1_bl (by simp [sp1]) (fun c hc => by simp at hc) (word_letters k h2) (word_ne k h1 h2) (fun y hy => by simp at hy; subst hy; exact hx)
def fnL : Line := wl sp1 [] (wordOf 19) []
def rtL : Line := wl sp1 sp1 (wordOf 15) [0]
theorem fnL_ok : fnL.Ok := wl_ok sp1_bl (by simp [sp1]) (fun c hc => by simp at hc) (word_letters 19 (by omega)) (word_ne 19 (by omega) (by omega)) (fun y hy => by simp at hy)
theorem rtL_ok : rtL.Ok := wl_ok sp1_bl (by simp [sp1]) sp1_bl (word_letters 15 (by omega)) (word_ne 15 (by omega) (by omega)) (fun y hy => by simp at hy; subst hy; unfold inR; omega)
def wordsC : List UInt8 := [35, 32, 119, 111, 114, 100, 115, 10]
theorem wordsC_goes : Goes st0 wordsC (cl [] 2 0) := Goes.of (by rfl)
theorem st0_goes : Goes st0 [] (cl [] 1 0) := fun _ => rfl
theorem decN_length : ∀ n, n < 1000 → (decN n).length ≤ 3 := by
  intro n hn
  rw [decN]
  split
  · simp
  · rw [decN]
    split
    · simp
    · rw [decN]
      split
      · simp
      · omega
theorem hl_length {k : Nat} {x : Nat} (hk : k < 20) (hx : x < 1000) : (hl k x).x.length ≤ 13 := by
  have h1 := decN_length x hx
  have h2 : ∀ k, k < 20 → (wordOf k).length ≤ 8 := by decide
  have h3 := h2 k hk
  have e : decB (x : Int) = decN x := by simp [decB, signL]
  simp [hl, wl, lnB, opsB, moreB, sp1, e]
  omega
section
variable {f d u : Nat}
theorem in_nat {x : Nat} {lo hi : Int} (h1 : lo ≤ x) (h2 : (x : Int) ≤ hi) : inB (x : Int) lo hi = true := by simp [inB, h1, h2]
theorem rest_ok : ∀ s ∈ [fnL, rtL], s.Ok := fun s hs => by
  simp at hs
  rcases hs with rfl | rfl
  · exact fnL_ok
  · exact rtL_ok
theorem inR_nat {x : Nat} (h : x < 1000) : inR (x : Int) := by unfold inR; omega
theorem hd_ok (hf : f < 1000) (hd : d < 1000) (hu : u < 1000) : (hl 16 f).Ok ∧ (hl 17 d).Ok ∧ (hl 18 u).Ok := ⟨hl_ok (by omega) (by omega) (inR_nat hf), hl_ok (by omega) (by omega) (inR_nat hd), hl_ok (by omega) (by omega) (inR_nat hu)⟩
theorem hd_good (hf : f ≤ 16) (hd : d ≤ 5) (hu1 : 1 ≤ u) (hu : u ≤ 500) : parseF (wordsC ++ textL [hl 16 f, hl 17 d, hl 18 u, fnL, rtL]) = (⟨[[⟨15, 0, 0, 0⟩]], f, d, u⟩, 0, 0) := by
  obtain ⟨o1, o2, o3⟩ := hd_ok (f := f) (d := d) (u := u) (by omega) (by omega) (by omega)
  have l1 := hl_length (k := 16) (x := f) (by omega) (by omega)
  have l2 := hl_length (k := 17) (x := d) (by omega) (by omega)
  have l3 := hl_length (k := 18) (x := u) (by omega) (by omega)
  have l4 : fnL.x.length = 9 := by rfl
  have l5 : rtL.x.length ≤ 10 := by simp [rtL, wl, lnB, opsB, moreB, sp1, decB, signL, decN, wordOf, formsT]
  rw [parse_lines _ wordsC_goes (fun s hs => by simp at hs; rcases hs with rfl | rfl | rfl | rfl | rfl; exact o1; exact o2; exact o3; exact fnL_ok; exact rtL_ok) (by simp [textL, wordsC]; omega)]
  have e : stL [] 0 2 [hl 16 f, hl 17 d, hl 18 u, fnL, rtL] = .inr [⟨16, [(f : Int)], 2⟩, ⟨17, [(d : Int)], 3⟩, ⟨18, [(u : Int)], 4⟩, ⟨19, [], 5⟩, ⟨15, [0], 6⟩] := by rfl
  have h1 : outF [⟨16, [(f : Int)], 2⟩, ⟨17, [(d : Int)], 3⟩, ⟨18, [(u : Int)], 4⟩, ⟨19, [], 5⟩, ⟨15, [0], 6⟩] = 0 := by
    have a1 : rangeB ⟨16, [(f : Int)], 2⟩ = true := by show inB (f : Int) 0 16 = true; exact in_nat (by omega) (by omega)
    have a2 : rangeB ⟨17, [(d : Int)], 3⟩ = true := by show inB (d : Int) 0 5 = true; exact in_nat (by omega) (by omega)
    have a3 : rangeB ⟨18, [(u : Int)], 4⟩ = true := by show inB (u : Int) 1 500 = true; exact in_nat (by omega) (by omega)
    have a4 : rangeB ⟨19, [], 5⟩ = true := rfl
    have a5 : rangeB ⟨15, [0], 6⟩ = true := rfl
    simp only [outF, a1, a2, a3, a4, a5, if_true]
  rw [e]
  unfold ofS
  simp only [h1]
  rfl
/-- the seven wrong texts -/
def wrongL (f d u : Nat) (k : Nat) : List Line := match k with
  | 0 => [hl 17 d, hl 16 f, hl 18 u, fnL, rtL]
  | 1 => [hl 16 f, hl 18 u, fnL, rtL]
  | 2 => [hl 16 f, hl 17 d, fnL, rtL]
  | 3 => [hl 16 17, hl 17 d, hl 18 u, fnL, rtL]
  | 4 => [hl 16 f, hl 17 6, hl 18 u, fnL, rtL]
  | 5 => [hl 16 f, hl 17 d, hl 18 0, fnL, rtL]
  | _ => [hl 16 f, hl 17 d]
def wrongN (k : Nat) : Int := [1, 2, 3, 1, 2, 3, 3].getD k 0
theorem wrong_len (f d u k : Nat) (hf : f ≤ 16) (hd : d ≤ 5) (hu : u ≤ 500) : (textL (wrongL f d u k)).length ≤ 100 := by
  have l1 := hl_length (k := 16) (x := f) (by omega) (by omega)
  have l2 := hl_length (k := 17) (x := d) (by omega) (by omega)
  have l3 := hl_length (k := 18) (x := u) (by omega) (by omega)
  have m1 := hl_length (k := 16) (x := 17) (by omega) (by omega)
  have m2 := hl_length (k := 17) (x := 6) (by omega) (by omega)
  have m3 := hl_length (k := 18) (x := 0) (by omega) (by omega)
  have l4 : fnL.x.length = 9 := by rfl
  have l5 : rtL.x.length ≤ 10 := by simp [rtL, wl, lnB, opsB, moreB, sp1, decB, signL, decN, wordOf, formsT]
  unfold wrongL
  split <;> (simp [textL] at *; omega)
theorem wrong_ok (f d u k : Nat) (hf : f ≤ 16) (hd : d ≤ 5) (hu : u ≤ 500) : ∀ s ∈ wrongL f d u k, s.Ok := by
  obtain ⟨o1, o2, o3⟩ := hd_ok (f := f) (d := d) (u := u) (by omega) (by omega) (by omega)
  obtain ⟨q1, q2, q3⟩ := hd_ok (f := 17) (d := 6) (u := 0) (by omega) (by omega) (by omega)
  intro s hs
  unfold wrongL at hs
  split at hs <;> (simp at hs; rcases hs with rfl | rfl | rfl | rfl | rfl) <;> first | exact o1 | exact o2 | exact o3 | exact fnL_ok | exact rtL_ok | exact q1 | exact q2 | exact q3
theorem hd_wrong (f d u k : Nat) (hf : f ≤ 16) (hd : d ≤ 5) (hu : u ≤ 500) (hk : k < 7) : parseF (textL (wrongL f d u k)) = (pr0, wrongN k, 3) := by
  have hp := parse_lines (wrongL f d u k) st0_goes (wrong_ok f d u k hf hd hu) (by have := wrong_len f d u k hf hd hu; simp; omega)
  rw [List.nil_append] at hp
  rw [hp]
  have a1 : inB (f : Int) 0 16 = true := in_nat (by omega) (by omega)
  have a2 : inB (d : Int) 0 5 = true := in_nat (by omega) (by omega)
  rcases (by omega : k = 0 ∨ k = 1 ∨ k = 2 ∨ k = 3 ∨ k = 4 ∨ k = 5 ∨ k = 6) with rfl | rfl | rfl | rfl | rfl | rfl | rfl
  · rfl
  · rfl
  · rfl
  · have e : stL [] 0 1 (wrongL f d u 3) = .inr [⟨16, [17], 1⟩, ⟨17, [(d : Int)], 2⟩, ⟨18, [(u : Int)], 3⟩, ⟨19, [], 4⟩, ⟨15, [0], 5⟩] := by rfl
    rw [e]
    rfl
  · have e : stL [] 0 1 (wrongL f d u 4) = .inr [⟨16, [(f : Int)], 1⟩, ⟨17, [6], 2⟩, ⟨18, [(u : Int)], 3⟩, ⟨19, [], 4⟩, ⟨15, [0], 5⟩] := by rfl
    have h1 : outF [⟨16, [(f : Int)], 1⟩, ⟨17, [6], 2⟩, ⟨18, [(u : Int)], 3⟩, ⟨19, [], 4⟩, ⟨15, [0], 5⟩] = 2 := by
      have b1 : rangeB ⟨16, [(f : Int)], 1⟩ = true := a1
      have b2 : rangeB ⟨17, [6], 2⟩ = false := rfl
      simp only [outF, b1, b2, if_true]
      rfl
    rw [e]
    unfold ofS
    simp only [h1]
    rfl
  · have e : stL [] 0 1 (wrongL f d u 5) = .inr [⟨16, [(f : Int)], 1⟩, ⟨17, [(d : Int)], 2⟩, ⟨18, [0], 3⟩, ⟨19, [], 4⟩, ⟨15, [0], 5⟩] := by rfl
    have h1 : outF [⟨16, [(f : Int)], 1⟩, ⟨17, [(d : Int)], 2⟩, ⟨18, [0], 3⟩, ⟨19, [], 4⟩, ⟨15, [0], 5⟩] = 3 := by
      have b1 : rangeB ⟨16, [(f : Int)], 1⟩ = true := a1
      have b2 : rangeB ⟨17, [(d : Int)], 2⟩ = true := a2
      have b3 : rangeB ⟨18, [0], 3⟩ = false := rfl
      simp only [outF, b1, b2, b3, if_true]
      rfl
    rw [e]
    unfold ofS
    simp only [h1]
    rfl
  · rfl
end
end Go.Proofs.YtdpagipbaddnfaaDoor
