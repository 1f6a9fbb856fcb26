/-
  Helpers: Asm, ShP.
-/
import Derived.Test.YtnhogbgnnnniaaaDoorAsmAllBun20
import Derived.Test.YtnhogbgnnnniaaaDoorAsmAllBun8
namespace Go.Proofs.YtnhogbgnnnniaaaDoor
open Go.RowKit L3
open C2 (In Pr bigB shapeI inB soundB putE SlF SlI Tab)

def formsT : List (List UInt8 × Int) := [([], 0), ([99, 111, 110, 115, 116], 2), ([97, 100, 100], 3), ([115, 117, 98], 3), ([109, 117, 108], 3), ([100, 105, 118], 3), ([108, 101, 115, 115], 3), ([106, 117, 109, 112], 1), ([122, 101, 114, 111], 2), ([102, 111, 114, 107], 3), ([106, 111, 105, 110], 2), ([115, 101, 116], 2), ([103, 101, 116], 2), ([99, 97, 110, 99, 101, 108], 1), ([121, 105, 101, 108, 100], 0), ([114, 101, 116], 1), ([102, 117, 116, 117, 114, 101, 115], 1), ([100, 101, 112, 116, 104], 1), ([102, 117, 101, 108], 1), ([102, 117, 110, 99, 116, 105, 111, 110], 0)]
def wordOf (k : Nat) : List UInt8 := (formsT.getD k ([], 0)).1
def opsOf (k : Nat) : Int := (formsT.getD k ([], 0)).2
/-- the last kind up to n whose word it is; 0: none -/
def kindTo : Nat → List UInt8 → Nat
  | 0, _ => 0
  | n + 1, s => if s = wordOf (n + 1) then n + 1 else kindTo n s
def kindOf (s : List UInt8) : Nat := kindTo 19 s
theorem kindTo_le : ∀ (n : Nat) (s : List UInt8), kindTo n s ≤ n
  | 0, _ => Nat.le_refl _
  | n + 1, s => by
    unfold kindTo
    split
    · omega
    · have := kindTo_le n s; omega
theorem kindOf_le (s : List UInt8) : kindOf s ≤ 19 := kindTo_le 19 s
theorem opsOf_bd : ∀ k, 0 ≤ opsOf k ∧ opsOf k ≤ 3 := by
  intro k
  by_cases h : k < 20
  · have : ∀ k, k < 20 → 0 ≤ opsOf k ∧ opsOf k ≤ 3 := by decide
    exact this k h
  · have : formsT.length ≤ k := by have : formsT.length = 20 := rfl; omega
    simp [opsOf, List.getD_eq_getElem?_getD, List.getElem?_eq_none this]

/-- operands: numbers with commas between, from the place k on -/
def altG : Nat → List Tk → Option (List Int)
  | _, [] => some []
  | k, t :: r => if k % 2 = 0 then (if t.k = 2 then (altG (k + 1) r).map (t.n :: ·) else none) else (if t.s = [44] then altG (k + 1) r else none)
def restOf (k : Nat) : Int := max 0 (2 * opsOf k - 1)
/-- a line without its End -/
def readF : List Tk → Option (Nat × List Int)
  | [] => none
  | t :: r => if kindOf t.s = 0 then none else if (r.length : Int) = restOf (kindOf t.s) then (altG 0 r).map fun xs => (kindOf t.s, xs) else none
def followsB (n k : Nat) : Bool := if n ≤ 3 then decide (k = 16 + n) else decide (k = 19) || decide (k ≤ 15)
structure Sm where
  k : Nat
  xs : List Int
  l : Int
def lineOf : List Tk → Int
  | [] => 0
  | t :: _ => t.l
/-- the lines of tokens, or the line that is none; cur: the line under way; last: the line of the last End -/
def stmF : List Tk → List Sm → Int → List Tk → Int ⊕ List Sm
  | _, all, last, [] => if all.length ≤ 2 then .inl (last + 1) else .inr all
  | cur, all, last, t :: r => if t.k ≠ 4 then stmF (cur ++ [t]) all last r else match readF cur with
    | none => .inl t.l
    | some (k, xs) => if followsB all.length k then stmF [] (all ++ [⟨k, xs, lineOf cur⟩]) t.l r else .inl t.l
def x0 (xs : List Int) : Int := xs.getD 0 0
def insOf (k : Nat) (xs : List Int) : In := ⟨k, xs.getD 0 0, xs.getD 1 0, xs.getD 2 0⟩
def pushL (fs : List (List In)) (i : In) : List (List In) := fs.dropLast ++ [fs.getLastD [] ++ [i]]
def stepP (p : Pr) (s : Sm) : Pr :=
  if s.k = 16 then ⟨p.fs, x0 s.xs, p.depth, p.fuel⟩
  else if s.k = 17 then ⟨p.fs, p.futs, x0 s.xs, p.fuel⟩
  else if s.k = 18 then ⟨p.fs, p.futs, p.depth, x0 s.xs⟩
  else if s.k = 19 then ⟨p.fs ++ [[]], p.futs, p.depth, p.fuel⟩
  else ⟨pushL p.fs (insOf s.k s.xs), p.futs, p.depth, p.fuel⟩
def pr0 : Pr := ⟨[], 0, 0, 0⟩
def progF (all : List Sm) : Pr := all.foldl stepP pr0
def rangeB (s : Sm) : Bool :=
  if s.k = 16 then inB (x0 s.xs) 0 16
  else if s.k = 17 then inB (x0 s.xs) 0 5
  else if s.k = 18 then inB (x0 s.xs) 1 500
  else if s.k = 19 then true
  else shapeI (insOf s.k s.xs)
def outF : List Sm → Int
  | [] => 0
  | s :: r => if rangeB s = true then outF r else s.l
/-- what Parse answers: a program, a line, an error -/
def parseF (l : List UInt8) : Pr × Int × Int :=
  if (lexF l).2.2 ≠ 0 then (pr0, (lexF l).2.1, (lexF l).2.2)
  else match stmF [] [] 0 (lexF l).1 with
    | .inl x => (pr0, x, 3)
    | .inr all => if bigB (progF all).fs = true then (pr0, 0, 2) else if outF all ≠ 0 then (pr0, outF all, 3) else (progF all, 0, 0)

/-! what is read is sound -/
structure SmOk (i : Nat) (s : Sm) : Prop where
  ops : (s.xs.length : Int) = opsOf s.k
  lo : 1 ≤ s.k
  hi : s.k ≤ 19
  fol : followsB i s.k = true
def Oks (all : List Sm) : Prop := ∀ i (h : i < all.length), SmOk i all[i]
theorem altG_len : ∀ (r : List Tk) (k : Nat) (xs : List Int), altG k r = some xs → xs.length = (r.length + 1 - k % 2) / 2
  | [], k, xs, h => by
    simp only [altG, Option.some.injEq] at h
    subst h
    simp only [List.length_nil]
    omega
  | t :: r, k, xs, h => by
    unfold altG at h
    split at h
    · rename_i hk
      split at h
      · cases hg : altG (k + 1) r with
        | none => rw [hg] at h; simp at h
        | some ys =>
          rw [hg] at h
          simp at h
          subst h
          have := altG_len r (k + 1) ys hg
          simp only [List.length_cons]
          omega
      · simp at h
    · split at h
      · have := altG_len r (k + 1) xs h
        simp only [List.length_cons]
        omega
      · simp at h
theorem readF_ok {ts : List Tk} {k : Nat} {xs : List Int} (h : readF ts = some (k, xs)) : (xs.length : Int) = opsOf k ∧ 1 ≤ k ∧ k ≤ 19 := by
  cases ts with
  | nil => simp [readF] at h
  | cons t r =>
    simp only [readF] at h
    split at h
    · simp at h
    · rename_i h0
      split at h
      · rename_i hl
        cases hg : altG 0 r with
        | none => rw [hg] at h; simp at h
        | some ys =>
          rw [hg] at h
          simp at h
          obtain ⟨rfl, rfl⟩ := h
          have h1 := altG_len r 0 ys hg
          have h2 := opsOf_bd (kindOf t.s)
          have h3 := kindOf_le t.s
          refine ⟨?_, by omega, h3⟩
          unfold restOf at hl
          omega
      · simp at h
theorem Oks.snoc {all : List Sm} (h : Oks all) {s : Sm} (hs : SmOk all.length s) : Oks (all ++ [s]) := fun i hi => by
  by_cases h1 : i < all.length
  · rw [List.getElem_append_left h1]; exact h i h1
  · have : i = all.length := by simp at hi; omega
    subst this
    rw [List.getElem_append_right (by omega)]
    simpa using hs
theorem stmF_ok : ∀ (T cur : List Tk) (all : List Sm) (last : Int) (out : List Sm), Oks all → stmF cur all last T = .inr out → Oks out ∧ 3 ≤ out.length
  | [], cur, all, last, out, h, hf => by
    unfold stmF at hf
    split at hf
    · simp at hf
    · simp only [Sum.inr.injEq] at hf
      subst hf
      exact ⟨h, by omega⟩
  | t :: r, cur, all, last, out, h, hf => by
    unfold stmF at hf
    split at hf
    · exact stmF_ok r _ all last out h hf
    · split at hf
      · simp at hf
      · rename_i k xs hr
        split at hf
        · rename_i hfo
          obtain ⟨h1, h2, h3⟩ := readF_ok hr
          exact stmF_ok r _ _ _ out (h.snoc ⟨h1, h2, h3, hfo⟩) hf
        · simp at hf
theorem oks_nil : Oks [] := fun i h => by simp at h
/-- behind its first three lines a list has a function for each instruction -/
theorem Oks.fs {all : List Sm} (h : Oks all) (n : Nat) (hn : n < all.length) (hi : all[n].k ≤ 15) : 4 ≤ n := by
  have h1 := (h n hn).fol
  unfold followsB at h1
  split at h1
  · simp at h1; omega
  · omega
theorem stepP_fs (p : Pr) (s : Sm) : p.fs.length ≤ (stepP p s).fs.length ∨ p.fs = [] := by
  unfold stepP
  split
  · exact .inl (Nat.le_refl _)
  · split
    · exact .inl (Nat.le_refl _)
    · split
      · exact .inl (Nat.le_refl _)
      · split
        · exact .inl (by simp)
        · by_cases hp : p.fs = []
          · exact .inr hp
          · have : 0 < p.fs.length := List.length_pos_iff.2 hp
            exact .inl (by simp [pushL]; omega)
theorem progF_snoc (all : List Sm) (s : Sm) : progF (all ++ [s]) = stepP (progF all) s := by simp [progF]
theorem progF_fs {all : List Sm} (h : Oks all) : ∀ n, 4 ≤ n → n ≤ all.length → 1 ≤ (progF (all.take n)).fs.length
  | 0, h0, _ => by omega
  | n + 1, h0, h1 => by
    have e : all.take (n + 1) = all.take n ++ [all[n]] := by rw [List.take_succ_eq_append_getElem (by omega)]
    rw [e, progF_snoc]
    by_cases hn : n = 3
    · subst hn
      have h2 := (h 3 (by omega)).fol
      have h3 : all[3].k = 19 := by simpa [followsB] using h2
      simp [stepP, h3]
    · have ih := progF_fs h n (by omega) (by omega)
      rcases stepP_fs (progF (all.take n)) all[n] with h4 | h4
      · omega
      · rw [h4] at ih; simp at ih
theorem progF_bd : ∀ (all : List Sm), (progF all).fs.length ≤ all.length + 1 ∧ ∀ f ∈ (progF all).fs, f.length ≤ all.length + 1 := by
  intro all
  rw [← List.take_length (l := all)]
  generalize hN : all.length = N
  have hle : N ≤ all.length := by omega
  clear hN
  rw [List.length_take, Nat.min_eq_left hle]
  induction N with
  | zero => simp [progF, pr0]
  | succ n ih =>
    have e : all.take (n + 1) = all.take n ++ [all[n]] := by rw [List.take_succ_eq_append_getElem (by omega)]
    obtain ⟨h1, h2⟩ := ih (by omega)
    rw [e, progF_snoc]
    generalize progF (all.take n) = p at h1 h2
    have up : ∀ f ∈ p.fs, f.length ≤ n + 1 + 1 := fun f hf => by have := h2 f hf; omega
    unfold stepP
    split
    · exact ⟨by show p.fs.length ≤ _; omega, up⟩
    · split
      · exact ⟨by show p.fs.length ≤ _; omega, up⟩
      · split
        · exact ⟨by show p.fs.length ≤ _; omega, up⟩
        · split
          · refine ⟨by simp; omega, fun f hf => ?_⟩
            simp at hf
            rcases hf with hf | rfl
            · exact up f hf
            · simp
          · refine ⟨by simp [pushL]; omega, fun f hf => ?_⟩
            simp [pushL] at hf
            rcases hf with hf | rfl
            · exact up f ((List.dropLast_sublist _).subset hf)
            · by_cases hp : p.fs = []
              · simp [hp]
              · have hm : p.fs.getLastD [] ∈ p.fs := by
                  rw [List.getLastD_eq_getLast?, List.getLast?_eq_some_getLast hp]
                  exact List.getLast_mem hp
                have := h2 _ hm
                simp at this ⊢
                omega
end Go.Proofs.YtnhogbgnnnniaaaDoor
namespace Go.Proofs.YtnhogbgnnnniaaaDoor
open L3

def headS : List UInt8 := [102, 117, 116, 117, 114, 101, 115, 32, 48, 10, 100, 101, 112, 116, 104, 32, 48, 10, 102, 117, 101, 108, 32, 49, 10, 102, 117, 110, 99, 116, 105, 111, 110, 10]
def yieldS : List UInt8 := [121, 105, 101, 108, 100, 10]
def badS (k : Nat) : List UInt8 := [[114, 101, 116, 32, 56], [97, 100, 100, 32, 48, 44, 32, 56, 44, 32, 48], [106, 111, 105, 110, 32, 48, 44, 32, 52], [102, 111, 114, 107, 32, 48, 44, 32, 49, 50, 44, 32, 48], [115, 101, 116, 32, 49, 54, 44, 32, 48], [103, 101, 116, 32, 48, 44, 32, 45, 49], [106, 117, 109, 112, 32, 52, 48], [99, 111, 110, 115, 116, 32, 56, 44, 32, 49]].getD k []
def tailS : List UInt8 := [10, 114, 101, 116, 32, 48, 10, 114, 101, 116, 32, 57, 10]
def ret0S : List UInt8 := [114, 101, 116, 32, 48, 10]
def reps : Nat → List UInt8
  | 0 => []
  | n + 1 => reps n ++ yieldS
def shBad (n k : Nat) : Bool := match parseF (headS ++ reps n ++ badS k ++ tailS) with
  | (p, ln, e) => decide (e = 3) && decide (ln = n + 5) && decide (p.fs.length = 0)
def shGood (n : Nat) : Bool := match parseF (headS ++ reps n ++ ret0S) with
  | (p, _, e) => decide (e = 0) && decide (p.fs.length = 1) && decide ((p.fs.getD 0 []).length = n + 1)
theorem sh_bad : ((List.range 20).all fun n => (List.range 8).all fun k => shBad n k) = true := by kernel_rfl
theorem sh_good : ((List.range 20).all fun n => shGood n) = true := by kernel_rfl
theorem sh_bad_at {n k : Nat} (hn : n < 20) (hk : k < 8) : ∃ p, parseF (headS ++ reps n ++ badS k ++ tailS) = (p, ((n : Int) + 5, 3)) ∧ p.fs = [] := by
  have h := sh_bad
  rw [List.all_eq_true] at h
  have h2 := h n (by simpa using hn)
  rw [List.all_eq_true] at h2
  have h3 := h2 k (by simpa using hk)
  unfold shBad at h3
  obtain ⟨p, ln, e, hp⟩ : ∃ p ln e, parseF (headS ++ reps n ++ badS k ++ tailS) = (p, ln, e) := ⟨_, _, _, rfl⟩
  rw [hp] at h3
  simp at h3
  obtain ⟨⟨rfl, rfl⟩, h4⟩ := h3
  exact ⟨p, hp, h4⟩
theorem sh_good_at {n : Nat} (hn : n < 20) : ∃ p x f, parseF (headS ++ reps n ++ ret0S) = (p, (x, 0)) ∧ p.fs = [f] ∧ f.length = n + 1 := by
  have h := sh_good
  rw [List.all_eq_true] at h
  have h3 := h n (by simpa using hn)
  unfold shGood at h3
  obtain ⟨p, ln, e, hp⟩ : ∃ p ln e, parseF (headS ++ reps n ++ ret0S) = (p, ln, e) := ⟨_, _, _, rfl⟩
  rw [hp] at h3
  simp at h3
  obtain ⟨⟨rfl, h4⟩, h5⟩ := h3
  obtain ⟨f, hf⟩ := List.length_eq_one_iff.1 h4
  rw [hf] at h5
  exact ⟨p, ln, f, hp, hf, by simpa using h5⟩
theorem awake_parse : parseF (headS ++ ret0S) = (⟨[[⟨15, 0, 0, 0⟩]], 0, 0, 1⟩, 0, 0) := by kernel_rfl
end Go.Proofs.YtnhogbgnnnniaaaDoor
