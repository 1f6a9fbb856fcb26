/-
  Texts line by line: what Parse makes of them, plainly.
-/
import Derived.Test.YtdpagipbaddnfaaDoorTxt
namespace Go.Proofs.YtdpagipbaddnfaaDoor
open Go.RowKit L3
open C2 (In Pr bigB)

/-- a line: its bytes; its tokens without End, at line l; what it is -/
structure Line where
  x : List UInt8
  ts : Int → List Tk
  rd : Option (Nat × List Int)
structure Line.Ok (s : Line) : Prop where
  go : ∀ T ln sg, ∃ g, Goes (cl T ln sg) s.x (cl (T ++ (s.ts ln ++ [⟨4, [], 0, ln⟩])) (ln + 1) g)
  no4 : ∀ l, ∀ t ∈ s.ts l, t.k ≠ 4
  hd : ∀ l, lineOf (s.ts l) = l
  rd : ∀ l, readF (s.ts l) = s.rd
def textL (L : List Line) : List UInt8 := (L.map Line.x).flatten
def toksL : Int → List Line → List Tk
  | _, [] => []
  | l, s :: r => (s.ts l ++ [⟨4, [], 0, l⟩]) ++ toksL (l + 1) r
theorem goes_lines : ∀ (L : List Line) (T : List Tk) (ln sg : Int), (∀ s ∈ L, s.Ok) → ∃ g, Goes (cl T ln sg) (textL L) (cl (T ++ toksL ln L) (ln + L.length) g)
  | [], T, ln, sg, _ => ⟨sg, by simpa [textL, toksL] using Goes.nil _⟩
  | s :: r, T, ln, sg, h => by
    obtain ⟨g, h1⟩ := (h s (by simp)).go T ln sg
    obtain ⟨g2, h2⟩ := goes_lines r (T ++ (s.ts ln ++ [⟨4, [], 0, ln⟩])) (ln + 1) g fun x hx => h x (by simp [hx])
    refine ⟨g2, ?_⟩
    have h3 := h1.trans h2
    have e : ln + 1 + (r.length : Int) = ln + ((s :: r).length : Int) := by simp; omega
    rw [e] at h3
    simpa [textL, toksL, List.append_assoc] using h3
theorem toks_shut : ∀ (L : List Line) (l : Int), openT (toksL l L) = false
  | [], _ => rfl
  | [s], l => by simp [toksL, openT]
  | s :: s2 :: r, l => by
    have := toks_shut (s2 :: r) (l + 1)
    unfold toksL
    unfold openT at this ⊢
    cases hg : (toksL (l + 1) (s2 :: r)).getLast? with
    | none =>
      have : toksL (l + 1) (s2 :: r) ≠ [] := by simp [toksL]
      simp [List.getLast?_eq_none_iff] at hg
      exact absurd hg this
    | some t =>
      rw [hg] at this
      rw [List.getLast?_append, hg]
      exact this
/-- a comment, lines -/
theorem lex_lines {pre : List UInt8} {ln sg : Int} (L : List Line) (hp : Goes st0 pre (cl [] ln sg)) (h : ∀ s ∈ L, s.Ok) (hl : (pre ++ textL L).length ≤ 8192) : lexF (pre ++ textL L) = (toksL ln L, 0, 0) := by
  obtain ⟨g, h1⟩ := goes_lines L [] ln sg h
  have h2 := (hp.trans h1) [10]
  unfold lexF
  rw [if_neg (by omega), h2]
  have h3 := toks_shut L ln
  have e : takeF (cl ([] ++ toksL ln L) (ln + L.length) g) 10 = some (cl (toksL ln L) (ln + L.length + 1) g) := by
    unfold takeF
    rw [if_neg (by simp), if_neg (by omega), if_neg (by omega)]
    simp [finF, othF, St.endL, cl, h3]
  rw [goY (z := 10) rfl e]
  rfl
/-- without the last line's end -/
theorem lex_lines_cut {L : List Line} (h : ∀ s ∈ L, s.Ok) {y : List UInt8} (hy : textL L = y ++ [10]) (hl : y.length ≤ 8192) : lexF y = (toksL 1 L, 0, 0) := by
  obtain ⟨g, h1⟩ := goes_lines L [] 1 0 h
  have h2 := h1 []
  rw [List.append_nil, hy] at h2
  unfold lexF
  rw [if_neg (by omega)]
  have e : st0 = cl [] 1 0 := rfl
  rw [e, h2]
  rfl
/-- the lines, one by one -/
def stL : List Sm → Int → Int → List Line → Int ⊕ List Sm
  | all, last, _, [] => if all.length ≤ 2 then .inl (last + 1) else .inr all
  | all, _, l, s :: r => match s.rd with
    | none => .inl l
    | some (k, xs) => if followsB all.length k then stL (all ++ [⟨k, xs, l⟩]) l (l + 1) r else .inl l
theorem stm_skip : ∀ (ts cur : List Tk) (all : List Sm) (last : Int) (rest : List Tk), (∀ t ∈ ts, t.k ≠ 4) → stmF cur all last (ts ++ rest) = stmF (cur ++ ts) all last rest
  | [], cur, all, last, rest, _ => by simp
  | t :: r, cur, all, last, rest, h => by
    simp only [List.cons_append, stmF]
    rw [if_pos (h t (by simp)), stm_skip r _ all last rest fun x hx => h x (by simp [hx])]
    simp
theorem stm_lines : ∀ (L : List Line) (all : List Sm) (last l : Int), (∀ s ∈ L, s.Ok) → stmF [] all last (toksL l L) = stL all last l L
  | [], all, last, l, _ => rfl
  | s :: r, all, last, l, h => by
    have hs := h s (by simp)
    unfold toksL stL
    rw [List.append_assoc, stm_skip _ _ _ _ _ (hs.no4 l)]
    simp only [List.nil_append, List.cons_append, stmF]
    rw [if_neg (by simp), hs.rd l, hs.hd l]
    cases s.rd with
    | none => rfl
    | some p =>
      obtain ⟨k, xs⟩ := p
      simp only
      split
      · exact stm_lines r _ _ _ fun x hx => h x (by simp [hx])
      · rfl
/-- what Parse comes to, by its lines -/
def ofS (r : Int ⊕ List Sm) : Pr × Int × Int := match r with
  | .inl x => (pr0, x, 3)
  | .inr all => if bigB (progF all).fs = true then (pr0, 0, 2) else if outF all ≠ 0 then (pr0, outF all, 3) else (progF all, 0, 0)
theorem parse_lines {pre : List UInt8} {ln sg : Int} (L : List Line) (hp : Goes st0 pre (cl [] ln sg)) (h : ∀ s ∈ L, s.Ok) (hl : (pre ++ textL L).length ≤ 8192) : parseF (pre ++ textL L) = ofS (stL [] 0 ln L) := by
  unfold parseF
  rw [lex_lines L hp h hl]
  simp only [ne_eq, not_true_eq_false, if_false]
  rw [stm_lines L [] 0 ln h]
  rfl
theorem parse_cut {L : List Line} (h : ∀ s ∈ L, s.Ok) {y : List UInt8} (hy : textL L = y ++ [10]) (hl : y.length ≤ 8192) : parseF y = ofS (stL [] 0 1 L) := by
  unfold parseF
  rw [lex_lines_cut h hy hl]
  simp only [ne_eq, not_true_eq_false, if_false]
  rw [stm_lines L [] 0 1 h]
  rfl
/-- a line of a word and numbers -/
def wl (sp lead wd : List UInt8) (xs : List Int) : Line := ⟨lnB sp lead wd xs, fun l => ⟨1, wd, 0, l⟩ :: opsT l xs, if kindOf wd = 0 then none else if (xs.length : Int) = opsOf (kindOf wd) then some (kindOf wd, xs) else none⟩
theorem moreT_len (l : Int) : ∀ xs, (moreT l xs).length = 2 * xs.length
  | [] => rfl
  | x :: r => by simp only [moreT, List.length_cons, moreT_len l r]; omega
theorem moreT_alt (l : Int) : ∀ (xs : List Int) (k : Nat), k % 2 = 1 → altG k (moreT l xs) = some xs
  | [], k, _ => rfl
  | x :: r, k, hk => by
    simp only [moreT, altG, if_true]
    rw [if_neg (by omega), if_pos (by omega), moreT_alt l r (k + 1 + 1) (by omega)]
    rfl
theorem opsT_alt (l : Int) (xs : List Int) : altG 0 (opsT l xs) = some xs := by
  cases xs with
  | nil => rfl
  | cons x r =>
    simp only [opsT, altG, if_true, Nat.zero_mod]
    rw [moreT_alt l r (0 + 1) (by omega)]
    rfl
theorem opsT_len (l : Int) (xs : List Int) : ((opsT l xs).length : Int) = max 0 (2 * (xs.length : Int) - 1) := by
  cases xs with
  | nil => rfl
  | cons x r => simp only [opsT, List.length_cons, moreT_len]; omega
theorem moreT_no4 (l : Int) : ∀ xs, ∀ t ∈ moreT l xs, t.k ≠ 4
  | [], t, h => by simp [moreT] at h
  | x :: r, t, h => by
    simp only [moreT, List.mem_cons] at h
    rcases h with rfl | rfl | h
    · simp
    · simp
    · exact moreT_no4 l r t h
theorem wl_ok {sp lead wd : List UInt8} {xs : List Int} (hs : Blanks sp) (hsn : sp ≠ []) (hl : Blanks lead) (hw : Letters wd) (hn : wd ≠ []) (hx : ∀ x ∈ xs, inR x) : (wl sp lead wd xs).Ok := by
  refine ⟨fun T ln sg => ?_, fun l t ht => ?_, fun l => rfl, fun l => ?_⟩
  · obtain ⟨g, h⟩ := goes_line hs hsn hl hw hn hx T ln sg
    exact ⟨g, h⟩
  · simp only [wl, List.mem_cons] at ht
    rcases ht with rfl | ht
    · simp
    · cases xs with
      | nil => simp [opsT] at ht
      | cons x r =>
        simp only [opsT, List.mem_cons] at ht
        rcases ht with rfl | ht
        · simp
        · exact moreT_no4 l r t ht
  · simp only [wl, readF, opsT_alt, opsT_len, restOf]
    split
    · rfl
    · have := opsOf_bd (kindOf wd)
      by_cases h : (xs.length : Int) = opsOf (kindOf wd)
      · rw [if_pos (by rw [h]), if_pos h]
        rfl
      · rw [if_neg (by omega), if_neg h]
end Go.Proofs.YtdpagipbaddnfaaDoor
