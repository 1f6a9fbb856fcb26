/-
  Helpers: Txt, ParL, HdP.
-/
import Derived.Test.YtnhogbgnnnniaaaDoorAsmAllBun26
import Derived.Test.YtnhogbgnnnniaaaDoorAsmAllBun25
namespace Go.Proofs.YtnhogbgnnnniaaaDoor
open Go.RowKit L3

/-- the reader goes from st to st' over x, whatever comes behind -/
def Goes (st : St) (x : List UInt8) (st' : St) : Prop := ∀ rest, lexGo st (x ++ rest) = lexGo st' rest
theorem Goes.trans {a b c : St} {x y : List UInt8} (h : Goes a x b) (k : Goes b y c) : Goes a (x ++ y) c := fun rest => by rw [List.append_assoc, h, k]
theorem Goes.nil (a : St) : Goes a [] a := fun _ => rfl
theorem Goes.one {a b : St} {c : UInt8} (h : takeF a c.toNat = some b) : Goes a [c] b := fun rest => by
  show lexGo a (c :: rest) = _
  simp only [lexGo, h]
theorem Goes.of {a b : St} {x : List UInt8} (h : lexGo a x = .inr b) : Goes a x b := fun rest => by rw [lexGo_append, h]
/-- a reader between words -/
def cl (T : List Tk) (ln sg : Int) : St := ⟨T, ln, 0, [], 0, sg⟩
def Blank (c : UInt8) : Prop := c = 32 ∨ c = 9 ∨ c = 13
def Blanks (l : List UInt8) : Prop := ∀ c ∈ l, Blank c
theorem goes_blanks : ∀ (l : List UInt8) (T : List Tk) (ln sg : Int), Blanks l → Goes (cl T ln sg) l (cl T ln sg)
  | [], T, ln, sg, _ => Goes.nil _
  | c :: r, T, ln, sg, h => by
    have h1 : Goes (cl T ln sg) [c] (cl T ln sg) := Goes.one (by rcases h c (by simp) with rfl | rfl | rfl <;> rfl)
    exact h1.trans (goes_blanks r T ln sg fun x hx => h x (by simp [hx]))
def Letters (l : List UInt8) : Prop := ∀ c ∈ l, 97 ≤ c.toNat ∧ c.toNat ≤ 122
theorem goes_letters : ∀ (l : List UInt8) (T : List Tk) (ln sg : Int) (ws : List UInt8) (ins : Int), (ins = 0 ∨ ins = 2) → Letters l → l ≠ [] → Goes ⟨T, ln, ins, ws, 0, sg⟩ l ⟨T, ln, 2, ws ++ l, 0, sg⟩
  | [], _, _, _, _, _, _, _, h => absurd rfl h
  | c :: r, T, ln, sg, ws, ins, hi, h, _ => by
    obtain ⟨h1, h2⟩ := h c (by simp)
    have hb : L3.byteOf (c.toNat : Int) = c := by simp [L3.byteOf]
    have hstep : Goes ⟨T, ln, ins, ws, 0, sg⟩ [c] ⟨T, ln, 2, ws ++ [c], 0, sg⟩ := Goes.one (by
      unfold takeF
      rw [if_neg (fun hh => by rcases hi with rfl | rfl <;> simp at hh), if_pos (by omega)]
      unfold letF
      rw [if_neg (by rcases hi with rfl | rfl <;> simp), hb])
    by_cases hr : r = []
    · subst hr; exact hstep
    · have := goes_letters r T ln sg (ws ++ [c]) 2 (.inr rfl) (fun x hx => h x (by simp [hx])) hr
      have h3 := hstep.trans this
      rw [List.append_assoc] at h3
      exact h3
/-- a blank behind a word -/
theorem goes_word {wd sp : List UInt8} (T : List Tk) (ln sg : Int) (hw : Letters wd) (hn : wd ≠ []) (hs : Blanks sp) (hsn : sp ≠ []) : Goes (cl T ln sg) (wd ++ sp) (cl (T ++ [⟨1, wd, 0, ln⟩]) ln sg) := by
  cases sp with
  | nil => exact absurd rfl hsn
  | cons c r =>
    have h1 := goes_letters wd T ln sg [] 0 (.inl rfl) hw hn
    have h2 : Goes ⟨T, ln, 2, [] ++ wd, 0, sg⟩ [c] (cl (T ++ [⟨1, wd, 0, ln⟩]) ln sg) := Goes.one (by rcases hs c (by simp) with rfl | rfl | rfl <;> rfl)
    exact h1.trans (h2.trans (goes_blanks r _ ln sg fun x hx => hs x (by simp [hx])))
/-- a line's end behind a word -/
theorem goes_word_end {wd : List UInt8} (T : List Tk) (ln sg : Int) (hw : Letters wd) (hn : wd ≠ []) : Goes (cl T ln sg) (wd ++ [10]) (cl (T ++ [⟨1, wd, 0, ln⟩, ⟨4, [], 0, ln⟩]) (ln + 1) sg) := by
  have h1 := goes_letters wd T ln sg [] 0 (.inl rfl) hw hn
  refine h1.trans (Goes.one ?_)
  show takeF ⟨T, ln, 2, wd, 0, sg⟩ 10 = _
  unfold takeF
  rw [if_neg (by simp), if_neg (by omega), if_neg (by omega)]
  simp [finF, othF, St.endL, openT, cl]
/-- a number's digits -/
def decN (n : Nat) : List UInt8 := if n < 10 then [UInt8.ofNat (48 + n)] else decN (n / 10) ++ [UInt8.ofNat (48 + n % 10)]
termination_by n
def decB (n : Int) : List UInt8 := signL n (decN n.natAbs)
theorem ofNat_dig {k : Nat} (h : k < 10) : (UInt8.ofNat (48 + k)).toNat = 48 + k := by
  simp
  omega
theorem decN_digs (n : Nat) : Digs (decN n) ∧ decN n ≠ [] ∧ valF 0 (decN n) = n := by
  induction n using Nat.strongRecOn with
  | _ n ih =>
    rw [decN]
    split
    · rename_i h
      refine ⟨fun b hb => ?_, by simp, ?_⟩
      · simp only [List.mem_singleton] at hb
        subst hb
        rw [ofNat_dig h]
        omega
      · simp only [valF, List.foldl_cons, List.foldl_nil, dgt, ofNat_dig h]
        omega
    · rename_i h
      obtain ⟨h1, h2, h3⟩ := ih (n / 10) (by omega)
      have hm : n % 10 < 10 := by omega
      refine ⟨fun b hb => ?_, by simp, ?_⟩
      · simp only [List.mem_append, List.mem_singleton] at hb
        rcases hb with hb | rfl
        · exact h1 b hb
        · rw [ofNat_dig hm]
          omega
      · unfold valF at h3 ⊢
        rw [List.foldl_append, h3]
        simp only [List.foldl_cons, List.foldl_nil, dgt, ofNat_dig hm]
        omega
/-- a number: its state -/
theorem goes_num (n : Int) (hn : inR n) (T : List Tk) (ln sg : Int) : ∃ g, Goes (cl T ln sg) (decB n) ⟨T, ln, 4, [], n, g⟩ := by
  obtain ⟨hd, hne, hv⟩ := decN_digs n.natAbs
  by_cases h0 : n < 0
  · have e1 : takeF (cl T ln sg) 45 = some ⟨T, ln, 3, [], 0, -1⟩ := rfl
    have h1 : Goes (cl T ln sg) [45] ⟨T, ln, 3, [], 0, -1⟩ := Goes.one e1
    have ev : (-1 : Int) * (valF 0 (decN n.natAbs) : Int) = n := by rw [hv]; omega
    have h2 := (dig_run (g := -1) (.inr rfl) (decN n.natAbs) ⟨T, ln, 3, [], 0, -1⟩ 0 hd (by simp) (by simp) rfl rfl hne).1
    rw [ev] at h2
    refine ⟨-1, ?_⟩
    have h3 := h1.trans (Goes.of (h2 hn))
    rw [decB, signL, if_pos h0]
    exact h3
  · have ev : (1 : Int) * (valF 0 (decN n.natAbs) : Int) = n := by rw [hv]; omega
    have h2 := (dig_run (g := 1) (.inl rfl) (decN n.natAbs) (cl T ln sg) 0 hd (by simp [cl]) (by simp [cl]) rfl rfl hne).1
    rw [ev] at h2
    refine ⟨1, ?_⟩
    rw [decB, signL, if_neg h0]
    exact Goes.of (h2 hn)
theorem goes_num_comma (n : Int) (hn : inR n) (T : List Tk) (ln sg : Int) : ∃ g, Goes (cl T ln sg) (decB n ++ [44]) (cl (T ++ [⟨2, [], n, ln⟩, ⟨3, [44], 0, ln⟩]) ln g) := by
  obtain ⟨g, h⟩ := goes_num n hn T ln sg
  refine ⟨g, h.trans (Goes.one ?_)⟩
  show takeF ⟨T, ln, 4, [], n, g⟩ 44 = _
  unfold takeF
  rw [if_neg (by simp), if_neg (by omega), if_neg (by omega)]
  simp [finF, othF, cl]
  rfl
theorem goes_num_end (n : Int) (hn : inR n) (T : List Tk) (ln sg : Int) : ∃ g, Goes (cl T ln sg) (decB n ++ [10]) (cl (T ++ [⟨2, [], n, ln⟩, ⟨4, [], 0, ln⟩]) (ln + 1) g) := by
  obtain ⟨g, h⟩ := goes_num n hn T ln sg
  refine ⟨g, h.trans (Goes.one ?_)⟩
  show takeF ⟨T, ln, 4, [], n, g⟩ 10 = _
  unfold takeF
  rw [if_neg (by simp), if_neg (by omega), if_neg (by omega)]
  simp [finF, othF, St.endL, openT, cl]
/-- a line: what stands ahead, a word, numbers -/
def moreB (sp : List UInt8) : List Int → List UInt8
  | [] => []
  | x :: r => [44] ++ sp ++ decB x ++ moreB sp r
def opsB (sp : List UInt8) : List Int → List UInt8
  | [] => []
  | x :: r => sp ++ decB x ++ moreB sp r
def lnB (sp lead wd : List UInt8) (xs : List Int) : List UInt8 := lead ++ wd ++ opsB sp xs ++ [10]
def moreT (l : Int) : List Int → List Tk
  | [] => []
  | x :: r => ⟨3, [44], 0, l⟩ :: ⟨2, [], x, l⟩ :: moreT l r
def opsT (l : Int) : List Int → List Tk
  | [] => []
  | x :: r => ⟨2, [], x, l⟩ :: moreT l r
def lnT (l : Int) (wd : List UInt8) (xs : List Int) : List Tk := ⟨1, wd, 0, l⟩ :: opsT l xs ++ [⟨4, [], 0, l⟩]
theorem goes_more : ∀ (xs : List Int) (x : Int) (sp : List UInt8) (T : List Tk) (ln sg : Int), inR x → (∀ y ∈ xs, inR y) → Blanks sp → ∃ g, Goes (cl T ln sg) (decB x ++ moreB sp xs ++ [10]) (cl (T ++ (⟨2, [], x, ln⟩ :: moreT ln xs ++ [⟨4, [], 0, ln⟩])) (ln + 1) g)
  | [], x, sp, T, ln, sg, hx, _, _ => by
    obtain ⟨g, h⟩ := goes_num_end x hx T ln sg
    exact ⟨g, by simpa [moreB, moreT] using h⟩
  | y :: r, x, sp, T, ln, sg, hx, hr, hs => by
    obtain ⟨g1, h1⟩ := goes_num_comma x hx T ln sg
    have h2 := h1.trans (goes_blanks sp _ ln g1 hs)
    obtain ⟨g3, h3⟩ := goes_more r y sp (T ++ [⟨2, [], x, ln⟩, ⟨3, [44], 0, ln⟩]) ln g1 (hr y (by simp)) (fun z hz => hr z (by simp [hz])) hs
    refine ⟨g3, ?_⟩
    have h4 := h2.trans h3
    simpa [moreB, moreT, List.append_assoc] using h4
theorem goes_line {sp lead wd : List UInt8} {xs : List Int} (hs : Blanks sp) (hsn : sp ≠ []) (hl : Blanks lead) (hw : Letters wd) (hn : wd ≠ []) (hx : ∀ x ∈ xs, inR x) (T : List Tk) (ln sg : Int) :
    ∃ g, Goes (cl T ln sg) (lnB sp lead wd xs) (cl (T ++ lnT ln wd xs) (ln + 1) g) := by
  have h0 := goes_blanks lead T ln sg hl
  cases xs with
  | nil =>
    refine ⟨sg, ?_⟩
    have := h0.trans (goes_word_end T ln sg hw hn)
    simpa [lnB, opsB, lnT, opsT, List.append_assoc] using this
  | cons x r =>
    have h1 := goes_word T ln sg hw hn hs hsn
    obtain ⟨g, h2⟩ := goes_more r x sp (T ++ [⟨1, wd, 0, ln⟩]) ln sg (hx x (by simp)) (fun y hy => hx y (by simp [hy])) hs
    refine ⟨g, ?_⟩
    have := h0.trans (h1.trans h2)
    simpa [lnB, opsB, lnT, opsT, List.append_assoc] using this
end Go.Proofs.YtnhogbgnnnniaaaDoor
namespace Go.Proofs.YtnhogbgnnnniaaaDoor
open Go.RowKit L3
open C2 (In Pr bigB)

/-- a line: its bytes; its tokens without End, at line l; what it is -/
structure Line where
  x : List UInt8
  ts : Int → List Tk
  rd : Option (Nat × List Int)
structure Line.Ok (s : Line) : Prop where
  go : ∀ T ln sg, ∃ g, Goes (cl T ln sg) s.x (cl (T ++ (s.ts ln ++ [⟨4, [], 0, ln⟩])) (ln + 1) g)
  no4 : ∀ l, ∀ t ∈ s.ts l, t.k ≠ 4
  hd : ∀ l, lineOf (s.ts l) = l
  rd : ∀ l, readF (s.ts l) = s.rd
def textL (L : List Line) : List UInt8 := (L.map Line.x).flatten
def toksL : Int → List Line → List Tk
  | _, [] => []
  | l, s :: r => (s.ts l ++ [⟨4, [], 0, l⟩]) ++ toksL (l + 1) r
theorem goes_lines : ∀ (L : List Line) (T : List Tk) (ln sg : Int), (∀ s ∈ L, s.Ok) → ∃ g, Goes (cl T ln sg) (textL L) (cl (T ++ toksL ln L) (ln + L.length) g)
  | [], T, ln, sg, _ => ⟨sg, by simpa [textL, toksL] using Goes.nil _⟩
  | s :: r, T, ln, sg, h => by
    obtain ⟨g, h1⟩ := (h s (by simp)).go T ln sg
    obtain ⟨g2, h2⟩ := goes_lines r (T ++ (s.ts ln ++ [⟨4, [], 0, ln⟩])) (ln + 1) g fun x hx => h x (by simp [hx])
    refine ⟨g2, ?_⟩
    have h3 := h1.trans h2
    have e : ln + 1 + (r.length : Int) = ln + ((s :: r).length : Int) := by simp; omega
    rw [e] at h3
    simpa [textL, toksL, List.append_assoc] using h3
theorem toks_shut : ∀ (L : List Line) (l : Int), openT (toksL l L) = false
  | [], _ => rfl
  | [s], l => by simp [toksL, openT]
  | s :: s2 :: r, l => by
    have := toks_shut (s2 :: r) (l + 1)
    unfold toksL
    unfold openT at this ⊢
    cases hg : (toksL (l + 1) (s2 :: r)).getLast? with
    | none =>
      have : toksL (l + 1) (s2 :: r) ≠ [] := by simp [toksL]
      simp [List.getLast?_eq_none_iff] at hg
      exact absurd hg this
    | some t =>
      rw [hg] at this
      rw [List.getLast?_append, hg]
      exact this
/-- a comment, lines -/
theorem lex_lines {pre : List UInt8} {ln sg : Int} (L : List Line) (hp : Goes st0 pre (cl [] ln sg)) (h : ∀ s ∈ L, s.Ok) (hl : (pre ++ textL L).length ≤ 8192) : lexF (pre ++ textL L) = (toksL ln L, 0, 0) := by
  obtain ⟨g, h1⟩ := goes_lines L [] ln sg h
  have h2 := (hp.trans h1) [10]
  unfold lexF
  rw [if_neg (by omega), h2]
  have h3 := toks_shut L ln
  have e : takeF (cl ([] ++ toksL ln L) (ln + L.length) g) 10 = some (cl (toksL ln L) (ln + L.length + 1) g) := by
    unfold takeF
    rw [if_neg (by simp), if_neg (by omega), if_neg (by omega)]
    simp [finF, othF, St.endL, cl, h3]
  rw [goY (z := 10) rfl e]
  rfl
/-- without the last line's end -/
theorem lex_lines_cut {L : List Line} (h : ∀ s ∈ L, s.Ok) {y : List UInt8} (hy : textL L = y ++ [10]) (hl : y.length ≤ 8192) : lexF y = (toksL 1 L, 0, 0) := by
  obtain ⟨g, h1⟩ := goes_lines L [] 1 0 h
  have h2 := h1 []
  rw [List.append_nil, hy] at h2
  unfold lexF
  rw [if_neg (by omega)]
  have e : st0 = cl [] 1 0 := rfl
  rw [e, h2]
  rfl
/-- the lines, one by one -/
def stL : List Sm → Int → Int → List Line → Int ⊕ List Sm
  | all, last, _, [] => if all.length ≤ 2 then .inl (last + 1) else .inr all
  | all, _, l, s :: r => match s.rd with
    | none => .inl l
    | some (k, xs) => if followsB all.length k then stL (all ++ [⟨k, xs, l⟩]) l (l + 1) r else .inl l
theorem stm_skip : ∀ (ts cur : List Tk) (all : List Sm) (last : Int) (rest : List Tk), (∀ t ∈ ts, t.k ≠ 4) → stmF cur all last (ts ++ rest) = stmF (cur ++ ts) all last rest
  | [], cur, all, last, rest, _ => by simp
  | t :: r, cur, all, last, rest, h => by
    simp only [List.cons_append, stmF]
    rw [if_pos (h t (by simp)), stm_skip r _ all last rest fun x hx => h x (by simp [hx])]
    simp
theorem stm_lines : ∀ (L : List Line) (all : List Sm) (last l : Int), (∀ s ∈ L, s.Ok) → stmF [] all last (toksL l L) = stL all last l L
  | [], all, last, l, _ => rfl
  | s :: r, all, last, l, h => by
    have hs := h s (by simp)
    unfold toksL stL
    rw [List.append_assoc, stm_skip _ _ _ _ _ (hs.no4 l)]
    simp only [List.nil_append, List.cons_append, stmF]
    rw [if_neg (by simp), hs.rd l, hs.hd l]
    cases s.rd with
    | none => rfl
    | some p =>
      obtain ⟨k, xs⟩ := p
      simp only
      split
      · exact stm_lines r _ _ _ fun x hx => h x (by simp [hx])
      · rfl
/-- what Parse comes to, by its lines -/
def ofS (r : Int ⊕ List Sm) : Pr × Int × Int := match r with
  | .inl x => (pr0, x, 3)
  | .inr all => if bigB (progF all).fs = true then (pr0, 0, 2) else if outF all ≠ 0 then (pr0, outF all, 3) else (progF all, 0, 0)
theorem parse_lines {pre : List UInt8} {ln sg : Int} (L : List Line) (hp : Goes st0 pre (cl [] ln sg)) (h : ∀ s ∈ L, s.Ok) (hl : (pre ++ textL L).length ≤ 8192) : parseF (pre ++ textL L) = ofS (stL [] 0 ln L) := by
  unfold parseF
  rw [lex_lines L hp h hl]
  simp only [ne_eq, not_true_eq_false, if_false]
  rw [stm_lines L [] 0 ln h]
  rfl
theorem parse_cut {L : List Line} (h : ∀ s ∈ L, s.Ok) {y : List UInt8} (hy : textL L = y ++ [10]) (hl : y.length ≤ 8192) : parseF y = ofS (stL [] 0 1 L) := by
  unfold parseF
  rw [lex_lines_cut h hy hl]
  simp only [ne_eq, not_true_eq_false, if_false]
  rw [stm_lines L [] 0 1 h]
  rfl
/-- a line of a word and numbers -/
def wl (sp lead wd : List UInt8) (xs : List Int) : Line := ⟨lnB sp lead wd xs, fun l => ⟨1, wd, 0, l⟩ :: opsT l xs, if kindOf wd = 0 then none else if (xs.length : Int) = opsOf (kindOf wd) then some (kindOf wd, xs) else none⟩
theorem moreT_len (l : Int) : ∀ xs, (moreT l xs).length = 2 * xs.length
  | [] => rfl
  | x :: r => by simp only [moreT, List.length_cons, moreT_len l r]; omega
theorem moreT_alt (l : Int) : ∀ (xs : List Int) (k : Nat), k % 2 = 1 → altG k (moreT l xs) = some xs
  | [], k, _ => rfl
  | x :: r, k, hk => by
    simp only [moreT, altG, if_true]
    rw [if_neg (by omega), if_pos (by omega), moreT_alt l r (k + 1 + 1) (by omega)]
    rfl
theorem opsT_alt (l : Int) (xs : List Int) : altG 0 (opsT l xs) = some xs := by
  cases xs with
  | nil => rfl
  | cons x r =>
    simp only [opsT, altG, if_true, Nat.zero_mod]
    rw [moreT_alt l r (0 + 1) (by omega)]
    rfl
theorem opsT_len (l : Int) (xs : List Int) : ((opsT l xs).length : Int) = max 0 (2 * (xs.length : Int) - 1) := by
  cases xs with
  | nil => rfl
  | cons x r => simp only [opsT, List.length_cons, moreT_len]; omega
theorem moreT_no4 (l : Int) : ∀ xs, ∀ t ∈ moreT l xs, t.k ≠ 4
  | [], t, h => by simp [moreT] at h
  | x :: r, t, h => by
    simp only [moreT, List.mem_cons] at h
    rcases h with rfl | rfl | h
    · simp
    · simp
    · exact moreT_no4 l r t h
theorem wl_ok {sp lead wd : List UInt8} {xs : List Int} (hs : Blanks sp) (hsn : sp ≠ []) (hl : Blanks lead) (hw : Letters wd) (hn : wd ≠ []) (hx : ∀ x ∈ xs, inR x) : (wl sp lead wd xs).Ok := by
  refine ⟨fun T ln sg => ?_, fun l t ht => ?_, fun l => rfl, fun l => ?_⟩
  · obtain ⟨g, h⟩ := goes_line hs hsn hl hw hn hx T ln sg
    exact ⟨g, h⟩
  · simp only [wl, List.mem_cons] at ht
    rcases ht with rfl | ht
    · simp
    · cases xs with
      | nil => simp [opsT] at ht
      | cons x r =>
        simp only [opsT, List.mem_cons] at ht
        rcases ht with rfl | ht
        · simp
        · exact moreT_no4 l r t ht
  · simp only [wl, readF, opsT_alt, opsT_len, restOf]
    split
    · rfl
    · have := opsOf_bd (kindOf wd)
      by_cases h : (xs.length : Int) = opsOf (kindOf wd)
      · rw [if_pos (by rw [h]), if_pos h]
        rfl
      · rw [if_neg (by omega), if_neg h]
end Go.Proofs.YtnhogbgnnnniaaaDoor
namespace Go.Proofs.YtnhogbgnnnniaaaDoor
open Go.RowKit L3
open C2 (In Pr inB)

def sp1 : List UInt8 := [32]
theorem sp1_bl : Blanks sp1 := fun c hc => by simp [sp1] at hc; exact .inl hc
theorem word_letters : ∀ k, k < 20 → Letters (wordOf k) := by
  intro k hk c hc
  have : ∀ k, k < 20 → (wordOf k).all (fun c => decide (97 ≤ c.toNat) && decide (c.toNat ≤ 122)) = true := by decide
  have h := List.all_eq_true.1 (this k hk) c hc
  simpa using h
theorem word_ne (k : Nat) (h1 : 1 ≤ k) (h2 : k < 20) : wordOf k ≠ [] := by
  have : ∀ k, k < 20 → 1 ≤ k → wordOf k ≠ [] := by decide
  exact this k h2 h1
/-- the head's lines -/
def hl (k : Nat) (x : Int) : Line := wl sp1 [] (wordOf k) [x]
theorem hl_ok {k : Nat} {x : Int} (h1 : 1 ≤ k) (h2 : k < 20) (hx : inR x) : (hl k x).Ok := wl_ok sp1_bl (by simp [sp1]) (fun c hc => by simp at hc) (word_letters k h2) (word_ne k h1 h2) (fun y hy => by simp at hy; subst hy; exact hx)
def fnL : Line := wl sp1 [] (wordOf 19) []
def rtL : Line := wl sp1 sp1 (wordOf 15) [0]
theorem fnL_ok : fnL.Ok := wl_ok sp1_bl (by simp [sp1]) (fun c hc => by simp at hc) (word_letters 19 (by omega)) (word_ne 19 (by omega) (by omega)) (fun y hy => by simp at hy)
theorem rtL_ok : rtL.Ok := wl_ok sp1_bl (by simp [sp1]) sp1_bl (word_letters 15 (by omega)) (word_ne 15 (by omega) (by omega)) (fun y hy => by simp at hy; subst hy; unfold inR; omega)
def wordsC : List UInt8 := [35, 32, 119, 111, 114, 100, 115, 10]
theorem wordsC_goes : Goes st0 wordsC (cl [] 2 0) := Goes.of (by rfl)
theorem st0_goes : Goes st0 [] (cl [] 1 0) := fun _ => rfl
theorem decN_length : ∀ n, n < 1000 → (decN n).length ≤ 3 := by
  intro n hn
  rw [decN]
  split
  · simp
  · rw [decN]
    split
    · simp
    · rw [decN]
      split
      · simp
      · omega
theorem hl_length {k : Nat} {x : Nat} (hk : k < 20) (hx : x < 1000) : (hl k x).x.length ≤ 13 := by
  have h1 := decN_length x hx
  have h2 : ∀ k, k < 20 → (wordOf k).length ≤ 8 := by decide
  have h3 := h2 k hk
  have e : decB (x : Int) = decN x := by simp [decB, signL]
  simp [hl, wl, lnB, opsB, moreB, sp1, e]
  omega
section
variable {f d u : Nat}
theorem in_nat {x : Nat} {lo hi : Int} (h1 : lo ≤ x) (h2 : (x : Int) ≤ hi) : inB (x : Int) lo hi = true := by simp [inB, h1, h2]
theorem rest_ok : ∀ s ∈ [fnL, rtL], s.Ok := fun s hs => by
  simp at hs
  rcases hs with rfl | rfl
  · exact fnL_ok
  · exact rtL_ok
theorem inR_nat {x : Nat} (h : x < 1000) : inR (x : Int) := by unfold inR; omega
theorem hd_ok (hf : f < 1000) (hd : d < 1000) (hu : u < 1000) : (hl 16 f).Ok ∧ (hl 17 d).Ok ∧ (hl 18 u).Ok := ⟨hl_ok (by omega) (by omega) (inR_nat hf), hl_ok (by omega) (by omega) (inR_nat hd), hl_ok (by omega) (by omega) (inR_nat hu)⟩
theorem hd_good (hf : f ≤ 16) (hd : d ≤ 5) (hu1 : 1 ≤ u) (hu : u ≤ 500) : parseF (wordsC ++ textL [hl 16 f, hl 17 d, hl 18 u, fnL, rtL]) = (⟨[[⟨15, 0, 0, 0⟩]], f, d, u⟩, 0, 0) := by
  obtain ⟨o1, o2, o3⟩ := hd_ok (f := f) (d := d) (u := u) (by omega) (by omega) (by omega)
  have l1 := hl_length (k := 16) (x := f) (by omega) (by omega)
  have l2 := hl_length (k := 17) (x := d) (by omega) (by omega)
  have l3 := hl_length (k := 18) (x := u) (by omega) (by omega)
  have l4 : fnL.x.length = 9 := by rfl
  have l5 : rtL.x.length ≤ 10 := by simp [rtL, wl, lnB, opsB, moreB, sp1, decB, signL, decN, wordOf, formsT]
  rw [parse_lines _ wordsC_goes (fun s hs => by simp at hs; rcases hs with rfl | rfl | rfl | rfl | rfl; exact o1; exact o2; exact o3; exact fnL_ok; exact rtL_ok) (by simp [textL, wordsC]; omega)]
  have e : stL [] 0 2 [hl 16 f, hl 17 d, hl 18 u, fnL, rtL] = .inr [⟨16, [(f : Int)], 2⟩, ⟨17, [(d : Int)], 3⟩, ⟨18, [(u : Int)], 4⟩, ⟨19, [], 5⟩, ⟨15, [0], 6⟩] := by rfl
  have h1 : outF [⟨16, [(f : Int)], 2⟩, ⟨17, [(d : Int)], 3⟩, ⟨18, [(u : Int)], 4⟩, ⟨19, [], 5⟩, ⟨15, [0], 6⟩] = 0 := by
    have a1 : rangeB ⟨16, [(f : Int)], 2⟩ = true := by show inB (f : Int) 0 16 = true; exact in_nat (by omega) (by omega)
    have a2 : rangeB ⟨17, [(d : Int)], 3⟩ = true := by show inB (d : Int) 0 5 = true; exact in_nat (by omega) (by omega)
    have a3 : rangeB ⟨18, [(u : Int)], 4⟩ = true := by show inB (u : Int) 1 500 = true; exact in_nat (by omega) (by omega)
    have a4 : rangeB ⟨19, [], 5⟩ = true := rfl
    have a5 : rangeB ⟨15, [0], 6⟩ = true := rfl
    simp only [outF, a1, a2, a3, a4, a5, if_true]
  rw [e]
  unfold ofS
  simp only [h1]
  rfl
/-- the seven wrong texts -/
def wrongL (f d u : Nat) (k : Nat) : List Line := match k with
  | 0 => [hl 17 d, hl 16 f, hl 18 u, fnL, rtL]
  | 1 => [hl 16 f, hl 18 u, fnL, rtL]
  | 2 => [hl 16 f, hl 17 d, fnL, rtL]
  | 3 => [hl 16 17, hl 17 d, hl 18 u, fnL, rtL]
  | 4 => [hl 16 f, hl 17 6, hl 18 u, fnL, rtL]
  | 5 => [hl 16 f, hl 17 d, hl 18 0, fnL, rtL]
  | _ => [hl 16 f, hl 17 d]
def wrongN (k : Nat) : Int := [1, 2, 3, 1, 2, 3, 3].getD k 0
theorem wrong_len (f d u k : Nat) (hf : f ≤ 16) (hd : d ≤ 5) (hu : u ≤ 500) : (textL (wrongL f d u k)).length ≤ 100 := by
  have l1 := hl_length (k := 16) (x := f) (by omega) (by omega)
  have l2 := hl_length (k := 17) (x := d) (by omega) (by omega)
  have l3 := hl_length (k := 18) (x := u) (by omega) (by omega)
  have m1 := hl_length (k := 16) (x := 17) (by omega) (by omega)
  have m2 := hl_length (k := 17) (x := 6) (by omega) (by omega)
  have m3 := hl_length (k := 18) (x := 0) (by omega) (by omega)
  have l4 : fnL.x.length = 9 := by rfl
  have l5 : rtL.x.length ≤ 10 := by simp [rtL, wl, lnB, opsB, moreB, sp1, decB, signL, decN, wordOf, formsT]
  unfold wrongL
  split <;> (simp [textL] at *; omega)
theorem wrong_ok (f d u k : Nat) (hf : f ≤ 16) (hd : d ≤ 5) (hu : u ≤ 500) : ∀ s ∈ wrongL f d u k, s.Ok := by
  obtain ⟨o1, o2, o3⟩ := hd_ok (f := f) (d := d) (u := u) (by omega) (by omega) (by omega)
  obtain ⟨q1, q2, q3⟩ := hd_ok (f := 17) (d := 6) (u := 0) (by omega) (by omega) (by omega)
  intro s hs
  unfold wrongL at hs
  split at hs <;> (simp at hs; rcases hs with rfl | rfl | rfl | rfl | rfl) <;> first | exact o1 | exact o2 | exact o3 | exact fnL_ok | exact rtL_ok | exact q1 | exact q2 | exact q3
theorem hd_wrong (f d u k : Nat) (hf : f ≤ 16) (hd : d ≤ 5) (hu : u ≤ 500) (hk : k < 7) : parseF (textL (wrongL f d u k)) = (pr0, wrongN k, 3) := by
  have hp := parse_lines (wrongL f d u k) st0_goes (wrong_ok f d u k hf hd hu) (by have := wrong_len f d u k hf hd hu; simp; omega)
  rw [List.nil_append] at hp
  rw [hp]
  have a1 : inB (f : Int) 0 16 = true := in_nat (by omega) (by omega)
  have a2 : inB (d : Int) 0 5 = true := in_nat (by omega) (by omega)
  rcases (by omega : k = 0 ∨ k = 1 ∨ k = 2 ∨ k = 3 ∨ k = 4 ∨ k = 5 ∨ k = 6) with rfl | rfl | rfl | rfl | rfl | rfl | rfl
  · rfl
  · rfl
  · rfl
  · have e : stL [] 0 1 (wrongL f d u 3) = .inr [⟨16, [17], 1⟩, ⟨17, [(d : Int)], 2⟩, ⟨18, [(u : Int)], 3⟩, ⟨19, [], 4⟩, ⟨15, [0], 5⟩] := by rfl
    rw [e]
    rfl
  · have e : stL [] 0 1 (wrongL f d u 4) = .inr [⟨16, [(f : Int)], 1⟩, ⟨17, [6], 2⟩, ⟨18, [(u : Int)], 3⟩, ⟨19, [], 4⟩, ⟨15, [0], 5⟩] := by rfl
    have h1 : outF [⟨16, [(f : Int)], 1⟩, ⟨17, [6], 2⟩, ⟨18, [(u : Int)], 3⟩, ⟨19, [], 4⟩, ⟨15, [0], 5⟩] = 2 := by
      have b1 : rangeB ⟨16, [(f : Int)], 1⟩ = true := a1
      have b2 : rangeB ⟨17, [6], 2⟩ = false := rfl
      simp only [outF, b1, b2, if_true]
      rfl
    rw [e]
    unfold ofS
    simp only [h1]
    rfl
  · have e : stL [] 0 1 (wrongL f d u 5) = .inr [⟨16, [(f : Int)], 1⟩, ⟨17, [(d : Int)], 2⟩, ⟨18, [0], 3⟩, ⟨19, [], 4⟩, ⟨15, [0], 5⟩] := by rfl
    have h1 : outF [⟨16, [(f : Int)], 1⟩, ⟨17, [(d : Int)], 2⟩, ⟨18, [0], 3⟩, ⟨19, [], 4⟩, ⟨15, [0], 5⟩] = 3 := by
      have b1 : rangeB ⟨16, [(f : Int)], 1⟩ = true := a1
      have b2 : rangeB ⟨17, [(d : Int)], 2⟩ = true := a2
      have b3 : rangeB ⟨18, [0], 3⟩ = false := rfl
      simp only [outF, b1, b2, b3, if_true]
      rfl
    rw [e]
    unfold ofS
    simp only [h1]
    rfl
  · rfl
end
end Go.Proofs.YtnhogbgnnnniaaaDoor
