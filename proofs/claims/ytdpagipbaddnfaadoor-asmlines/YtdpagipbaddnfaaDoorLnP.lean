/-
  AsmLines, plainly: a text's lines, one of them turned.
-/
import Derived.Test.YtdpagipbaddnfaaDoorTxtP
import Derived.Test.YtdpagipbaddnfaaDoorC2ByNum
namespace Go.Proofs.YtdpagipbaddnfaaDoor
open Go.RowKit L3
open C2 (In Pr shapeI OkPr)

/-- lines of bytes: those that are whole, the one under way -/
def scan1 (s : List (List UInt8) × List UInt8) (b : UInt8) : List (List UInt8) × List UInt8 := if b = 10 then (s.1 ++ [s.2 ++ [10]], []) else (s.1, s.2 ++ [b])
def scanF (s : List (List UInt8) × List UInt8) (l : List UInt8) : List (List UInt8) × List UInt8 := l.foldl scan1 s
theorem scan_app (s : List (List UInt8) × List UInt8) (a b : List UInt8) : scanF s (a ++ b) = scanF (scanF s a) b := List.foldl_append
theorem scan1_flat (s : List (List UInt8) × List UInt8) (b : UInt8) : (scan1 s b).1.flatten ++ (scan1 s b).2 = s.1.flatten ++ s.2 ++ [b] := by
  unfold scan1
  split
  · rename_i h
    simp [h]
  · simp
theorem scan_flat : ∀ (l : List UInt8) (s : List (List UInt8) × List UInt8), (scanF s l).1.flatten ++ (scanF s l).2 = s.1.flatten ++ s.2 ++ l
  | [], s => by simp [scanF]
  | b :: r, s => by
    have := scan_flat r (scan1 s b)
    rw [scan1_flat] at this
    show (scanF (scan1 s b) r).1.flatten ++ (scanF (scan1 s b) r).2 = _
    rw [this]
    simp
theorem scan_body : ∀ (l : List UInt8) (d : List (List UInt8)) (c : List UInt8), (10 : UInt8) ∉ l → scanF (d, c) l = (d, c ++ l)
  | [], d, c, _ => by simp [scanF]
  | b :: r, d, c, h => by
    simp at h
    have e : scan1 (d, c) b = (d, c ++ [b]) := by unfold scan1; rw [if_neg (fun e => h.1 e.symm)]
    show scanF (scan1 (d, c) b) r = _
    rw [e, scan_body r d (c ++ [b]) h.2]
    simp
/-- a line of bytes -/
def Lined (x : List UInt8) : Prop := ∃ b, x = b ++ [10] ∧ (10 : UInt8) ∉ b
theorem scan_line {x : List UInt8} (h : Lined x) (d : List (List UInt8)) : scanF (d, []) x = (d ++ [x], []) := by
  obtain ⟨b, rfl, hb⟩ := h
  rw [scan_app, scan_body b d [] hb]
  simp [scanF, scan1]
theorem scan_lines : ∀ (ls : List (List UInt8)) (d : List (List UInt8)), (∀ x ∈ ls, Lined x) → scanF (d, []) ls.flatten = (d ++ ls, [])
  | [], d, _ => by simp [scanF]
  | x :: r, d, h => by
    rw [List.flatten_cons, scan_app, scan_line (h x (by simp)), scan_lines r _ fun y hy => h y (by simp [hy])]
    simp
theorem no10_letters {l : List UInt8} (h : Letters l) : (10 : UInt8) ∉ l := fun hm => by have := h 10 hm; simp at this
theorem no10_blanks {l : List UInt8} (h : Blanks l) : (10 : UInt8) ∉ l := fun hm => by
  rcases h 10 hm with h | h | h <;> simp at h
theorem no10_dec (v : Int) : (10 : UInt8) ∉ decB v := fun hm => by
  obtain ⟨hd, -, -⟩ := decN_digs v.natAbs
  unfold decB signL at hm
  split at hm
  · simp at hm
    have := hd 10 hm
    simp at this
  · have := hd 10 hm
    simp at this
theorem no10_more {sp : List UInt8} (hs : Blanks sp) : ∀ xs, (10 : UInt8) ∉ moreB sp xs
  | [] => by simp [moreB]
  | x :: r => by
    have h1 := no10_blanks hs
    have h2 := no10_dec x
    have h3 := no10_more hs r
    simp [moreB, h1, h2, h3]
theorem no10_ops {sp : List UInt8} (hs : Blanks sp) (xs : List Int) : (10 : UInt8) ∉ opsB sp xs := by
  cases xs with
  | nil => simp [opsB]
  | cons x r =>
    have h1 := no10_blanks hs
    have h2 := no10_dec x
    have h3 := no10_more hs r
    simp [opsB, h1, h2, h3]
theorem wl_lined {sp lead wd : List UInt8} {xs : List Int} (hs : Blanks sp) (hl : Blanks lead) (hw : Letters wd) : Lined (wl sp lead wd xs).x := by
  refine ⟨lead ++ wd ++ opsB sp xs, rfl, ?_⟩
  have h1 := no10_blanks hl
  have h2 := no10_letters hw
  have h3 := no10_ops hs xs
  simp [h1, h2, h3]
theorem prog_lined {ex : List UInt8} (he : Exs ex) {p : Pr} (hg : C2.Good p) : ∀ s ∈ progL ex p, Lined s.x := by
  intro s hs
  have hb := spx_bl he
  have hn : Blanks [] := fun c hc => by simp at hc
  rcases List.mem_append.1 hs with h | h
  · simp at h
    rcases h with rfl | rfl | rfl
    · exact wl_lined hb hn (word_letters 16 (by omega))
    · exact wl_lined hb hn (word_letters 17 (by omega))
    · exact wl_lined hb hn (word_letters 18 (by omega))
  · unfold funsL at h
    rw [List.mem_flatten] at h
    obtain ⟨L, hL, hs⟩ := h
    obtain ⟨f, hf, rfl⟩ := List.mem_map.1 hL
    rcases List.mem_cons.1 hs with rfl | hs
    · exact wl_lined hb hn (word_letters 19 (by omega))
    · obtain ⟨x, hx, rfl⟩ := List.mem_map.1 hs
      have h1 := (shp (List.all_eq_true.1 (hg.shapes f hf) x hx)).hi
      exact wl_lined hb (fun c hc => by rcases List.mem_append.1 hc with h | h <;> exact hb c h) (word_letters _ (by omega))
/-! the four wrong lines -/
def bad4 : Line := ⟨[99, 111, 110, 115, 116, 32, 48, 32, 49, 10], fun l => [⟨1, [99, 111, 110, 115, 116], 0, l⟩, ⟨2, [], 0, l⟩, ⟨2, [], 1, l⟩], none⟩
def badW (k : Nat) : Line := match k with
  | 0 => wl sp1 [] [104, 111, 112] []
  | 1 => wl sp1 [] [114, 101, 116] [0, 0]
  | 2 => wl sp1 [] [114, 101, 116] []
  | _ => bad4
theorem goes_num_blank (n : Int) (hn : inR n) (T : List Tk) (ln sg : Int) : ∃ g, Goes (cl T ln sg) (decB n ++ [32]) (cl (T ++ [⟨2, [], n, ln⟩]) ln g) := by
  obtain ⟨g, h⟩ := goes_num n hn T ln sg
  refine ⟨g, h.trans (Goes.one ?_)⟩
  show takeF ⟨T, ln, 4, [], n, g⟩ 32 = _
  unfold takeF
  rw [if_neg (by simp), if_neg (by omega), if_neg (by omega)]
  simp [finF, othF, cl]
theorem lets {l : List UInt8} (h : (l.all fun c => decide (97 ≤ c.toNat) && decide (c.toNat ≤ 122)) = true) : Letters l := fun c hc => by
  have := List.all_eq_true.1 h c hc
  simpa using this
theorem bad4_ok : bad4.Ok := by
  refine ⟨fun T ln sg => ?_, fun l t ht => ?_, fun l => rfl, fun l => rfl⟩
  · have h1 := goes_word (wd := [99, 111, 110, 115, 116]) (sp := [32]) T ln sg (lets (by decide)) (by simp) sp1_bl (by simp)
    obtain ⟨g2, h2⟩ := goes_num_blank 0 (by unfold inR; omega) (T ++ [⟨1, [99, 111, 110, 115, 116], 0, ln⟩]) ln sg
    obtain ⟨g3, h3⟩ := goes_num_end 1 (by unfold inR; omega) (T ++ [⟨1, [99, 111, 110, 115, 116], 0, ln⟩] ++ [⟨2, [], 0, ln⟩]) ln g2
    have h4 := h1.trans (h2.trans h3)
    have e0 : decB 0 = [48] := by simp [decB, signL, decN]
    have e1 : decB 1 = [49] := by simp [decB, signL, decN]
    rw [e0, e1] at h4
    exact ⟨g3, by simpa [bad4] using h4⟩
  · simp [bad4] at ht
    rcases ht with rfl | rfl | rfl <;> simp
theorem nilB : Blanks [] := fun c hc => by simp at hc
theorem badW_ok (k : Nat) (_ : k < 4) : (badW k).Ok := by
  unfold badW
  split
  · exact wl_ok sp1_bl (by simp [sp1]) nilB (lets (by decide)) (by simp) (fun y hy => by simp at hy)
  · exact wl_ok sp1_bl (by simp [sp1]) nilB (lets (by decide)) (by simp) (fun y hy => by simp at hy; subst hy; unfold inR; omega)
  · exact wl_ok sp1_bl (by simp [sp1]) nilB (lets (by decide)) (by simp) (fun y hy => by simp at hy)
  · exact bad4_ok
theorem badW_rd (k : Nat) : (badW k).rd = none := by
  unfold badW
  split <;> rfl
theorem badW_len (k : Nat) : (badW k).x.length ≤ 10 := by
  unfold badW
  split <;> simp [wl, lnB, opsB, moreB, sp1, decB, signL, decN, bad4]
/-! few lines -/
theorem prog_few {p : Pr} (h : OkPr p) (ex : List UInt8) : 3 ≤ (progL ex p).length ∧ (progL ex p).length ≤ 51 := by
  have key : ∀ (fs : List (List In)), (∀ f ∈ fs, f.length ≤ 11) → (funsL ex fs).length ≤ 12 * fs.length := by
    intro fs
    induction fs with
    | nil => intro _; simp [funsL]
    | cons f r ih =>
      intro h
      have ih := ih fun g hg => h g (by simp [hg])
      have hf := h f (by simp)
      have e : funsL ex (f :: r) = funL ex f ++ funsL ex r := rfl
      rw [e, List.length_append]
      simp [funL]
      omega
  have h1 := key p.fs fun f hf => (h.fns f hf).2.1
  have h2 := h.few
  unfold progL
  simp
  omega
theorem prog_text_len {p : Pr} (h : OkPr p) {ex : List UInt8} (hx : ex.length ≤ 3) : (textL (progL ex p)).length ≤ 3570 := by
  have h1 := textL_len (progL ex p) 70 (prog_line_len hx h.good)
  have h2 := (prog_few h ex).2
  omega
/-- one line turned: told there -/
theorem turned_told {p : Pr} (h : OkPr p) {k m : Nat} (hk : k < (progL [] p).length) (hm : m < 4) :
    parseF (((progL [] p).map Line.x).set k (badW m).x).flatten = (pr0, (k : Int) + 1, 3) := by
  have hg := h.good
  have hex : Exs [] := nilB
  generalize hL : progL [] p = L at *
  have e : (L.map Line.x).set k (badW m).x = (L.take k ++ badW m :: L.drop (k + 1)).map Line.x := by
    rw [← List.map_set, List.set_eq_take_append_cons_drop, if_pos hk]
  rw [e]
  have hok : ∀ s ∈ L, s.Ok := by rw [← hL]; exact prog_ok hex hg
  have hlen : ∀ s ∈ L, s.x.length ≤ 70 := by rw [← hL]; exact prog_line_len (ex := []) (by simp) hg
  have hfew : L.length ≤ 51 := by rw [← hL]; exact (prog_few h []).2
  have hfol : Fol 0 L := by rw [← hL]; exact prog_fol [] hg
  have hb := badW_len m
  have hp := parse_lines (L.take k ++ badW m :: L.drop (k + 1)) st0_goes (fun s hs => by
    rcases List.mem_append.1 hs with h | h
    · exact hok s (List.mem_of_mem_take h)
    · rcases List.mem_cons.1 h with rfl | h
      · exact badW_ok m hm
      · exact hok s (List.mem_of_mem_drop h)) (by
    have := textL_len (L.take k ++ badW m :: L.drop (k + 1)) 70 (fun s hs => by
      rcases List.mem_append.1 hs with h | h
      · exact hlen s (List.mem_of_mem_take h)
      · rcases List.mem_cons.1 h with rfl | h
        · omega
        · exact hlen s (List.mem_of_mem_drop h))
    simp at this ⊢
    omega)
  rw [List.nil_append] at hp
  show parseF (textL (L.take k ++ badW m :: L.drop (k + 1))) = _
  rw [hp, stL_bad (L.take k) (L.drop (k + 1)) (badW m) [] 0 1 (fol_left _ (L.drop k) 0 (by rw [List.take_append_drop]; exact hfol)) (badW_rd m)]
  unfold ofS
  simp
  omega
theorem cut_same {p : Pr} (h : OkPr p) : parseF ((textP p).take ((textP p).length - 1)) = (p, 0, 0) := by
  have hg := h.good
  have hne : progL [] p ≠ [] := by simp [progL]
  have hlast := prog_lined (ex := []) nilB hg ((progL [] p).getLast hne) (List.getLast_mem hne)
  obtain ⟨b, hb, -⟩ := hlast
  have e : textP p = textL (progL [] p).dropLast ++ b ++ [10] := by
    have : progL [] p = (progL [] p).dropLast ++ [(progL [] p).getLast hne] := (List.dropLast_concat_getLast hne).symm
    unfold textP
    rw [this, textL_app]
    simp [textL, hb]
  have hlen := prog_text_len h (ex := []) (by simp)
  have e2 : (textP p).take ((textP p).length - 1) = textL (progL [] p).dropLast ++ b := by
    have key : ∀ a : List UInt8, (a ++ [10]).take ((a ++ [10]).length - 1) = a := fun a => by simp
    rw [e]
    exact key _
  have hy : textL (progL [] p) = (textP p).take ((textP p).length - 1) ++ [10] := by
    rw [e2]
    exact e
  rw [parse_cut (prog_ok nilB hg) hy (by unfold textP; rw [List.length_take]; omega)]
  exact prog_st [] 1 hg
end Go.Proofs.YtdpagipbaddnfaaDoor
