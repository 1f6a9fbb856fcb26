/-
  Texts of lines, plainly: what lex makes of them.
-/
import Derived.Test.YtdpagipbaddnfaaDoorAsm
import Derived.Test.YtdpagipbaddnfaaDoorL3Digits
namespace Go.Proofs.YtdpagipbaddnfaaDoor
open Go.RowKit L3

/-- the reader goes from st to st' over x, whatever comes behind -/
def Goes (st : St) (x : List UInt8) (st' : St) : Prop := ∀ rest, lexGo st (x ++ rest) = lexGo st' rest
theorem Goes.trans {a b c : St} {x y : List UInt8} (h : Goes a x b) (k : Goes b y c) : Goes a (x ++ y) c := fun rest => by rw [List.append_assoc, h, k]
theorem Goes.nil (a : St) : Goes a [] a := fun _ => rfl
theorem Goes.one {a b : St} {c : UInt8} (h : takeF a c.toNat = some b) : Goes a [c] b := fun rest => by
  show lexGo a (c :: rest) = _
  simp only [lexGo, h]
theorem Goes.of {a b : St} {x : List UInt8} (h : lexGo a x = .inr b) : Goes a x b := fun rest => by rw [lexGo_append, h]
/-- a reader between words -/
def cl (T : List Tk) (ln sg : Int) : St := ⟨T, ln, 0, [], 0, sg⟩
def Blank (c : UInt8) : Prop := c = 32 ∨ c = 9 ∨ c = 13
def Blanks (l : List UInt8) : Prop := ∀ c ∈ l, Blank c
theorem goes_blanks : ∀ (l : List UInt8) (T : List Tk) (ln sg : Int), Blanks l → Goes (cl T ln sg) l (cl T ln sg)
  | [], T, ln, sg, _ => Goes.nil _
  | c :: r, T, ln, sg, h => by
    have h1 : Goes (cl T ln sg) [c] (cl T ln sg) := Goes.one (by rcases h c (by simp) with rfl | rfl | rfl <;> rfl)
    exact h1.trans (goes_blanks r T ln sg fun x hx => h x (by simp [hx]))
def Letters (l : List UInt8) : Prop := ∀ c ∈ l, 97 ≤ c.toNat ∧ c.toNat ≤ 122
theorem goes_letters : ∀ (l : List UInt8) (T : List Tk) (ln sg : Int) (ws : List UInt8) (ins : Int), (ins = 0 ∨ ins = 2) → Letters l → l ≠ [] → Goes ⟨T, ln, ins, ws, 0, sg⟩ l ⟨T, ln, 2, ws ++ l, 0, sg⟩
  | [], _, _, _, _, _, _, _, h => absurd rfl h
  | c :: r, T, ln, sg, ws, ins, hi, h, _ => by
    obtain ⟨h1, h2⟩ := h c (by simp)
    have hb : L3.byteOf (c.toNat : Int) = c := by simp [L3.byteOf]
    have hstep : Goes ⟨T, ln, ins, ws, 0, sg⟩ [c] ⟨T, ln, 2, ws ++ [c], 0, sg⟩ := Goes.one (by
      unfold takeF
      rw [if_neg (fun hh => by rcases hi with rfl | rfl <;> simp at hh), if_pos (by omega)]
      unfold letF
      rw [if_neg (by rcases hi with rfl | rfl <;> simp), hb])
    by_cases hr : r = []
    · subst hr; exact hstep
    · have := goes_letters r T ln sg (ws ++ [c]) 2 (.inr rfl) (fun x hx => h x (by simp [hx])) hr
      have h3 := hstep.trans this
      rw [List.append_assoc] at h3
      exact h3
/-- a blank behind a word -/
theorem goes_word {wd sp : List UInt8} (T : List Tk) (ln sg : Int) (hw : Letters wd) (hn : wd ≠ []) (hs : Blanks sp) (hsn : sp ≠ []) : Goes (cl T ln sg) (wd ++ sp) (cl (T ++ [⟨1, wd, 0, ln⟩]) ln sg) := by
  cases sp with
  | nil => exact absurd rfl hsn
  | cons c r =>
    have h1 := goes_letters wd T ln sg [] 0 (.inl rfl) hw hn
    have h2 : Goes ⟨T, ln, 2, [] ++ wd, 0, sg⟩ [c] (cl (T ++ [⟨1, wd, 0, ln⟩]) ln sg) := Goes.one (by rcases hs c (by simp) with rfl | rfl | rfl <;> rfl)
    exact h1.trans (h2.trans (goes_blanks r _ ln sg fun x hx => hs x (by simp [hx])))
/-- a line's end behind a word -/
theorem goes_word_end {wd : List UInt8} (T : List Tk) (ln sg : Int) (hw : Letters wd) (hn : wd ≠ []) : Goes (cl T ln sg) (wd ++ [10]) (cl (T ++ [⟨1, wd, 0, ln⟩, ⟨4, [], 0, ln⟩]) (ln + 1) sg) := by
  have h1 := goes_letters wd T ln sg [] 0 (.inl rfl) hw hn
  refine h1.trans (Goes.one ?_)
  show takeF ⟨T, ln, 2, wd, 0, sg⟩ 10 = _
  unfold takeF
  rw [if_neg (by simp), if_neg (by omega), if_neg (by omega)]
  simp [finF, othF, St.endL, openT, cl]
/-- a number's digits -/
def decN (n : Nat) : List UInt8 := if n < 10 then [UInt8.ofNat (48 + n)] else decN (n / 10) ++ [UInt8.ofNat (48 + n % 10)]
termination_by n
def decB (n : Int) : List UInt8 := signL n (decN n.natAbs)
theorem ofNat_dig {k : Nat} (h : k < 10) : (UInt8.ofNat (48 + k)).toNat = 48 + k := by
  simp
  omega
theorem decN_digs (n : Nat) : Digs (decN n) ∧ decN n ≠ [] ∧ valF 0 (decN n) = n := by
  induction n using Nat.strongRecOn with
  | _ n ih =>
    rw [decN]
    split
    · rename_i h
      refine ⟨fun b hb => ?_, by simp, ?_⟩
      · simp only [List.mem_singleton] at hb
        subst hb
        rw [ofNat_dig h]
        omega
      · simp only [valF, List.foldl_cons, List.foldl_nil, dgt, ofNat_dig h]
        omega
    · rename_i h
      obtain ⟨h1, h2, h3⟩ := ih (n / 10) (by omega)
      have hm : n % 10 < 10 := by omega
      refine ⟨fun b hb => ?_, by simp, ?_⟩
      · simp only [List.mem_append, List.mem_singleton] at hb
        rcases hb with hb | rfl
        · exact h1 b hb
        · rw [ofNat_dig hm]
          omega
      · unfold valF at h3 ⊢
        rw [List.foldl_append, h3]
        simp only [List.foldl_cons, List.foldl_nil, dgt, ofNat_dig hm]
        omega
/-- a number: its state -/
theorem goes_num (n : Int) (hn : inR n) (T : List Tk) (ln sg : Int) : ∃ g, Goes (cl T ln sg) (decB n) ⟨T, ln, 4, [], n, g⟩ := by
  obtain ⟨hd, hne, hv⟩ := decN_digs n.natAbs
  by_cases h0 : n < 0
  · have e1 : takeF (cl T ln sg) 45 = some ⟨T, ln, 3, [], 0, -1⟩ := rfl
    have h1 : Goes (cl T ln sg) [45] ⟨T, ln, 3, [], 0, -1⟩ := Goes.one e1
    have ev : (-1 : Int) * (valF 0 (decN n.natAbs) : Int) = n := by rw [hv]; omega
    have h2 := (dig_run (g := -1) (.inr rfl) (decN n.natAbs) ⟨T, ln, 3, [], 0, -1⟩ 0 hd (by simp) (by simp) rfl rfl hne).1
    rw [ev] at h2
    refine ⟨-1, ?_⟩
    have h3 := h1.trans (Goes.of (h2 hn))
    rw [decB, signL, if_pos h0]
    exact h3
  · have ev : (1 : Int) * (valF 0 (decN n.natAbs) : Int) = n := by rw [hv]; omega
    have h2 := (dig_run (g := 1) (.inl rfl) (decN n.natAbs) (cl T ln sg) 0 hd (by simp [cl]) (by simp [cl]) rfl rfl hne).1
    rw [ev] at h2
    refine ⟨1, ?_⟩
    rw [decB, signL, if_neg h0]
    exact Goes.of (h2 hn)
theorem goes_num_comma (n : Int) (hn : inR n) (T : List Tk) (ln sg : Int) : ∃ g, Goes (cl T ln sg) (decB n ++ [44]) (cl (T ++ [⟨2, [], n, ln⟩, ⟨3, [44], 0, ln⟩]) ln g) := by
  obtain ⟨g, h⟩ := goes_num n hn T ln sg
  refine ⟨g, h.trans (Goes.one ?_)⟩
  show takeF ⟨T, ln, 4, [], n, g⟩ 44 = _
  unfold takeF
  rw [if_neg (by simp), if_neg (by omega), if_neg (by omega)]
  simp [finF, othF, cl]
  rfl
theorem goes_num_end (n : Int) (hn : inR n) (T : List Tk) (ln sg : Int) : ∃ g, Goes (cl T ln sg) (decB n ++ [10]) (cl (T ++ [⟨2, [], n, ln⟩, ⟨4, [], 0, ln⟩]) (ln + 1) g) := by
  obtain ⟨g, h⟩ := goes_num n hn T ln sg
  refine ⟨g, h.trans (Goes.one ?_)⟩
  show takeF ⟨T, ln, 4, [], n, g⟩ 10 = _
  unfold takeF
  rw [if_neg (by simp), if_neg (by omega), if_neg (by omega)]
  simp [finF, othF, St.endL, openT, cl]
/-- a line: what stands ahead, a word, numbers -/
def moreB (sp : List UInt8) : List Int → List UInt8
  | [] => []
  | x :: r => [44] ++ sp ++ decB x ++ moreB sp r
def opsB (sp : List UInt8) : List Int → List UInt8
  | [] => []
  | x :: r => sp ++ decB x ++ moreB sp r
def lnB (sp lead wd : List UInt8) (xs : List Int) : List UInt8 := lead ++ wd ++ opsB sp xs ++ [10]
def moreT (l : Int) : List Int → List Tk
  | [] => []
  | x :: r => ⟨3, [44], 0, l⟩ :: ⟨2, [], x, l⟩ :: moreT l r
def opsT (l : Int) : List Int → List Tk
  | [] => []
  | x :: r => ⟨2, [], x, l⟩ :: moreT l r
def lnT (l : Int) (wd : List UInt8) (xs : List Int) : List Tk := ⟨1, wd, 0, l⟩ :: opsT l xs ++ [⟨4, [], 0, l⟩]
theorem goes_more : ∀ (xs : List Int) (x : Int) (sp : List UInt8) (T : List Tk) (ln sg : Int), inR x → (∀ y ∈ xs, inR y) → Blanks sp → ∃ g, Goes (cl T ln sg) (decB x ++ moreB sp xs ++ [10]) (cl (T ++ (⟨2, [], x, ln⟩ :: moreT ln xs ++ [⟨4, [], 0, ln⟩])) (ln + 1) g)
  | [], x, sp, T, ln, sg, hx, _, _ => by
    obtain ⟨g, h⟩ := goes_num_end x hx T ln sg
    exact ⟨g, by simpa [moreB, moreT] using h⟩
  | y :: r, x, sp, T, ln, sg, hx, hr, hs => by
    obtain ⟨g1, h1⟩ := goes_num_comma x hx T ln sg
    have h2 := h1.trans (goes_blanks sp _ ln g1 hs)
    obtain ⟨g3, h3⟩ := goes_more r y sp (T ++ [⟨2, [], x, ln⟩, ⟨3, [44], 0, ln⟩]) ln g1 (hr y (by simp)) (fun z hz => hr z (by simp [hz])) hs
    refine ⟨g3, ?_⟩
    have h4 := h2.trans h3
    simpa [moreB, moreT, List.append_assoc] using h4
theorem goes_line {sp lead wd : List UInt8} {xs : List Int} (hs : Blanks sp) (hsn : sp ≠ []) (hl : Blanks lead) (hw : Letters wd) (hn : wd ≠ []) (hx : ∀ x ∈ xs, inR x) (T : List Tk) (ln sg : Int) :
    ∃ g, Goes (cl T ln sg) (lnB sp lead wd xs) (cl (T ++ lnT ln wd xs) (ln + 1) g) := by
  have h0 := goes_blanks lead T ln sg hl
  cases xs with
  | nil =>
    refine ⟨sg, ?_⟩
    have := h0.trans (goes_word_end T ln sg hw hn)
    simpa [lnB, opsB, lnT, opsT, List.append_assoc] using this
  | cons x r =>
    have h1 := goes_word T ln sg hw hn hs hsn
    obtain ⟨g, h2⟩ := goes_more r x sp (T ++ [⟨1, wd, 0, ln⟩]) ln sg (hx x (by simp)) (fun y hy => hx y (by simp [hy])) hs
    refine ⟨g, ?_⟩
    have := h0.trans (h1.trans h2)
    simpa [lnB, opsB, lnT, opsT, List.append_assoc] using this
end Go.Proofs.YtdpagipbaddnfaaDoor
