/-
  Helpers: TxtP.
-/
import Derived.Test.YtnhogbgnnnniaaaDoorAsmAllBun32
import Derived.Test.YtnhogbgnnnniaaaDoorAsmAllBun11
namespace Go.Proofs.YtnhogbgnnnniaaaDoor
open Go.RowKit L3
open C2 (In Pr inB shapeI shapeB bigB lastOf firstOf inB_iff good_iff)

/-- operands of an instruction, as many as it has -/
def xsOf (x : In) : List Int := [x.a, x.b, x.c].take (opsOf x.o.toNat).toNat
def spx (ex : List UInt8) : List UInt8 := 32 :: ex
def insL (ex : List UInt8) (x : In) : Line := wl (spx ex) (spx ex ++ spx ex) (wordOf x.o.toNat) (xsOf x)
def hdL (ex : List UInt8) (k : Nat) (v : Int) : Line := wl (spx ex) [] (wordOf k) [v]
def fnX (ex : List UInt8) : Line := wl (spx ex) [] (wordOf 19) []
def funL (ex : List UInt8) (f : List In) : List Line := fnX ex :: f.map (insL ex)
def funsL (ex : List UInt8) (fs : List (List In)) : List Line := (fs.map (funL ex)).flatten
def progL (ex : List UInt8) (p : Pr) : List Line := [hdL ex 16 p.futs, hdL ex 17 p.depth, hdL ex 18 p.fuel] ++ funsL ex p.fs
def textP (p : Pr) : List UInt8 := textL (progL [] p)

theorem kind_word (k : Nat) (h1 : 1 ≤ k) (h2 : k < 20) : kindOf (wordOf k) = k := by
  have : ∀ k, k < 20 → 1 ≤ k → kindOf (wordOf k) = k := by decide
  exact this k h2 h1
theorem last_none (o : Nat) (h1 : 1 ≤ o) (h2 : o ≤ 15) : (opsOf o ≤ 0 → lastOf (o : Int) 0 = 0) ∧ (opsOf o ≤ 1 → lastOf (o : Int) 1 = 0) ∧ (opsOf o ≤ 2 → lastOf (o : Int) 2 = 0) := by
  have : ∀ o : Nat, o < 16 → 1 ≤ o → (opsOf o ≤ 0 → lastOf (o : Int) 0 = 0) ∧ (opsOf o ≤ 1 → lastOf (o : Int) 1 = 0) ∧ (opsOf o ≤ 2 → lastOf (o : Int) 2 = 0) := by decide
  exact this o (by omega) h1
/-- an instruction that may be: what it has -/
structure Shp (x : In) (o : Nat) : Prop where
  eq : x.o = (o : Int)
  lo : 1 ≤ o
  hi : o ≤ 15
  a : inR x.a
  b : inR x.b
  c : inR x.c
  a0 : opsOf o ≤ 0 → x.a = 0
  b0 : opsOf o ≤ 1 → x.b = 0
  c0 : opsOf o ≤ 2 → x.c = 0
theorem last_bd (o : Nat) (h1 : 1 ≤ o) (h2 : o ≤ 15) : inR (lastOf (o : Int) 0) ∧ inR (lastOf (o : Int) 1) ∧ inR (lastOf (o : Int) 2) := by
  have : ∀ o : Nat, o < 16 → 1 ≤ o → (-2147483648 ≤ lastOf (o : Int) 0 ∧ lastOf (o : Int) 0 ≤ 2147483647) ∧ (-2147483648 ≤ lastOf (o : Int) 1 ∧ lastOf (o : Int) 1 ≤ 2147483647) ∧ (-2147483648 ≤ lastOf (o : Int) 2 ∧ lastOf (o : Int) 2 ≤ 2147483647) := by decide
  exact this o (by omega) h1
theorem first_lo (l : Int) : -2147483648 ≤ firstOf l := by unfold firstOf; split <;> omega
theorem first_zero : firstOf 0 = 0 := rfl
theorem shp {x : In} (h : shapeI x = true) : Shp x x.o.toNat := by
  unfold shapeI shapeB at h
  simp only [Bool.and_eq_true, inB_iff] at h
  obtain ⟨⟨⟨⟨h1, h2⟩, a1, a2⟩, b1, b2⟩, c1, c2⟩ := h
  have ho : x.o = (x.o.toNat : Int) := by omega
  generalize x.o.toNat = o at ho
  rw [ho] at h1 h2 a1 a2 b1 b2 c1 c2
  obtain ⟨l0, l1, l2⟩ := last_bd o (by omega) (by omega)
  obtain ⟨n0, n1, n2⟩ := last_none o (by omega) (by omega)
  have f0 := first_lo (lastOf (o : Int) 0)
  have f1 := first_lo (lastOf (o : Int) 1)
  have f2 := first_lo (lastOf (o : Int) 2)
  unfold inR at l0 l1 l2
  refine ⟨ho, by omega, by omega, ⟨by omega, by omega⟩, ⟨by omega, by omega⟩, ⟨by omega, by omega⟩, fun h => ?_, fun h => ?_, fun h => ?_⟩
  · rw [n0 h, first_zero] at a1; rw [n0 h] at a2; omega
  · rw [n1 h, first_zero] at b1; rw [n1 h] at b2; omega
  · rw [n2 h, first_zero] at c1; rw [n2 h] at c2; omega
theorem ops_cases (o : Nat) : opsOf o = 0 ∨ opsOf o = 1 ∨ opsOf o = 2 ∨ opsOf o = 3 := by have := opsOf_bd o; omega
theorem xs_len (x : In) : ((xsOf x).length : Int) = opsOf x.o.toNat := by
  unfold xsOf
  rcases ops_cases x.o.toNat with h | h | h | h <;> rw [h] <;> rfl
theorem xs_back {x : In} (h : shapeI x = true) : insOf x.o.toNat (xsOf x) = x := by
  have hs := shp h
  have e := hs.eq
  have ea := hs.a0
  have eb := hs.b0
  have ec := hs.c0
  have key : ∀ (k : Nat) (o a b c : Int), o = (k : Int) → (opsOf k ≤ 0 → a = 0) → (opsOf k ≤ 1 → b = 0) → (opsOf k ≤ 2 → c = 0) → insOf k ([a, b, c].take (opsOf k).toNat) = ⟨o, a, b, c⟩ := by
    intro k o a b c ho ha hb hc
    unfold insOf
    rw [ho]
    rcases ops_cases k with h | h | h | h <;> rw [h] at ha hb hc ⊢
    · rw [ha (by omega), hb (by omega), hc (by omega)]; rfl
    · rw [hb (by omega), hc (by omega)]; rfl
    · rw [hc (by omega)]; rfl
    · rfl
  exact key _ _ _ _ _ e ea eb ec
theorem xs_in {x : In} (h : shapeI x = true) : ∀ y ∈ xsOf x, inR y := by
  have hs := shp h
  intro y hy
  have := List.mem_of_mem_take hy
  simp at this
  rcases this with rfl | rfl | rfl
  · exact hs.a
  · exact hs.b
  · exact hs.c
def Exs (ex : List UInt8) : Prop := Blanks ex
theorem spx_bl {ex : List UInt8} (h : Exs ex) : Blanks (spx ex) := fun c hc => by
  simp [spx] at hc
  rcases hc with rfl | hc
  · exact .inl rfl
  · exact h c hc
theorem spx_ne (ex : List UInt8) : spx ex ≠ [] := by simp [spx]
theorem insL_ok {ex : List UInt8} (he : Exs ex) {x : In} (h : shapeI x = true) : (insL ex x).Ok := by
  have hs := shp h
  have h1 := hs.lo
  have h2 := hs.hi
  exact wl_ok (spx_bl he) (spx_ne ex) (fun c hc => by rcases List.mem_append.1 hc with h | h <;> exact spx_bl he c h) (word_letters _ (by omega)) (word_ne _ (by omega) (by omega)) (xs_in h)
theorem insL_rd (ex : List UInt8) {x : In} (h : shapeI x = true) : (insL ex x).rd = some (x.o.toNat, xsOf x) := by
  have hs := shp h
  have h1 := hs.lo
  have h2 := hs.hi
  show (if kindOf (wordOf x.o.toNat) = 0 then none else if ((xsOf x).length : Int) = opsOf (kindOf (wordOf x.o.toNat)) then some (kindOf (wordOf x.o.toNat), xsOf x) else none) = _
  rw [kind_word _ (by omega) (by omega), if_neg (by omega), if_pos (xs_len x)]
theorem hdL_ok {ex : List UInt8} (he : Exs ex) {k : Nat} {v : Int} (h1 : 1 ≤ k) (h2 : k < 20) (hv : inR v) : (hdL ex k v).Ok :=
  wl_ok (spx_bl he) (spx_ne ex) (fun c hc => by simp at hc) (word_letters k h2) (word_ne k h1 h2) (fun y hy => by simp at hy; subst hy; exact hv)
theorem fnX_ok {ex : List UInt8} (he : Exs ex) : (fnX ex).Ok :=
  wl_ok (spx_bl he) (spx_ne ex) (fun c hc => by simp at hc) (word_letters 19 (by omega)) (word_ne 19 (by omega) (by omega)) (fun y hy => by simp at hy)
theorem prog_ok {ex : List UInt8} (he : Exs ex) {p : Pr} (hg : C2.Good p) : ∀ s ∈ progL ex p, s.Ok := by
  intro s hs
  have i16 : inR p.futs := by have := hg.futs; unfold inR; omega
  have i17 : inR p.depth := by have := hg.depth; unfold inR; omega
  have i18 : inR p.fuel := by have := hg.fuel; unfold inR; omega
  rcases List.mem_append.1 hs with h | h
  · simp at h
    rcases h with rfl | rfl | rfl
    · exact hdL_ok he (by omega) (by omega) i16
    · exact hdL_ok he (by omega) (by omega) i17
    · exact hdL_ok he (by omega) (by omega) i18
  · unfold funsL at h
    rw [List.mem_flatten] at h
    obtain ⟨L, hL, hs⟩ := h
    obtain ⟨f, hf, rfl⟩ := List.mem_map.1 hL
    rcases List.mem_cons.1 hs with rfl | hs
    · exact fnX_ok he
    · obtain ⟨x, hx, rfl⟩ := List.mem_map.1 hs
      exact insL_ok he (List.all_eq_true.1 (hg.shapes f hf) x hx)

/-- each line is one, and may stand where it does -/
def Fol : Nat → List Line → Prop
  | _, [] => True
  | n, s :: r => (∃ k xs, s.rd = some (k, xs) ∧ followsB n k = true) ∧ Fol (n + 1) r
theorem fol_app : ∀ (A B : List Line) (n : Nat), Fol n A → Fol (n + A.length) B → Fol n (A ++ B)
  | [], B, n, _, h => by simpa using h
  | s :: r, B, n, h1, h2 => ⟨h1.1, fol_app r B (n + 1) h1.2 (by rw [List.length_cons] at h2; rw [show n + 1 + r.length = n + (r.length + 1) by omega]; exact h2)⟩
def smL : Int → List Line → List Sm
  | _, [] => []
  | l, s :: r => match s.rd with
    | none => smL (l + 1) r
    | some (k, xs) => ⟨k, xs, l⟩ :: smL (l + 1) r
theorem smL_app : ∀ (A B : List Line) (l : Int), smL l (A ++ B) = smL l A ++ smL (l + A.length) B
  | [], B, l => by simp [smL]
  | s :: r, B, l => by
    have ih := smL_app r B (l + 1)
    have e : l + 1 + (r.length : Int) = l + ((s :: r).length : Int) := by simp; omega
    rw [e] at ih
    simp only [List.cons_append, smL, ih]
    cases s.rd with
    | none => rfl
    | some p => rfl
theorem stL_fol : ∀ (L : List Line) (all : List Sm) (last l : Int), Fol all.length L → 3 ≤ all.length + L.length → stL all last l L = .inr (all ++ smL l L)
  | [], all, last, l, _, h => by
    simp only [stL, smL, List.append_nil]
    rw [if_neg (by simp at h; omega)]
  | s :: r, all, last, l, hf, h => by
    obtain ⟨⟨k, xs, hk, hb⟩, hr⟩ := hf
    simp only [stL, smL, hk, hb, if_true]
    rw [stL_fol r _ _ _ (by simpa using hr) (by simp at h ⊢; omega)]
    simp
/-- one that is none, behind such that are: told there -/
theorem stL_bad : ∀ (A : List Line) (B : List Line) (s : Line) (all : List Sm) (last l : Int), Fol all.length A → s.rd = none → stL all last l (A ++ s :: B) = .inl (l + A.length)
  | [], B, s, all, last, l, _, hs => by simp [stL, hs]
  | t :: r, B, s, all, last, l, hf, hs => by
    obtain ⟨⟨k, xs, hk, hb⟩, hr⟩ := hf
    simp only [List.cons_append, stL, hk, hb, if_true]
    rw [stL_bad r B s _ _ _ (by simpa using hr) hs]
    simp
    omega
theorem fol_left : ∀ (A B : List Line) (n : Nat), Fol n (A ++ B) → Fol n A
  | [], _, _, _ => trivial
  | _ :: r, B, n, h => ⟨h.1, fol_left r B (n + 1) h.2⟩
theorem ins_fol (ex : List UInt8) : ∀ (f : List In) (n : Nat), 4 ≤ n → f.all shapeI = true → Fol n (f.map (insL ex))
  | [], n, _, _ => trivial
  | x :: r, n, hn, h => by
    simp only [List.all_cons, Bool.and_eq_true] at h
    have hs := shp h.1
    have h2 := hs.hi
    exact ⟨⟨_, _, insL_rd ex h.1, by unfold followsB; rw [if_neg (by omega)]; simp; omega⟩, ins_fol ex r (n + 1) (by omega) h.2⟩
theorem fnX_rd (ex : List UInt8) : (fnX ex).rd = some (19, []) := rfl
theorem hdL_rd (ex : List UInt8) (k : Nat) (v : Int) (h : k = 16 ∨ k = 17 ∨ k = 18) : (hdL ex k v).rd = some (k, [v]) := by
  rcases h with rfl | rfl | rfl <;> rfl
theorem funs_fol (ex : List UInt8) : ∀ (fs : List (List In)) (n : Nat), 3 ≤ n → (∀ f ∈ fs, f.all shapeI = true) → Fol n (funsL ex fs)
  | [], n, _, _ => trivial
  | f :: r, n, hn, h => by
    have e : funsL ex (f :: r) = funL ex f ++ funsL ex r := rfl
    rw [e]
    refine fol_app _ _ _ ⟨⟨19, [], fnX_rd ex, ?_⟩, ins_fol ex f _ (by omega) (h f (by simp))⟩ (funs_fol ex r _ (by omega) fun g hg => h g (by simp [hg]))
    unfold followsB
    split
    · have : n = 3 := by omega
      simp [this]
    · simp
theorem prog_fol (ex : List UInt8) {p : Pr} (hg : C2.Good p) : Fol 0 (progL ex p) :=
  fol_app _ _ _ ⟨⟨16, [p.futs], rfl, rfl⟩, ⟨17, [p.depth], rfl, rfl⟩, ⟨18, [p.fuel], rfl, rfl⟩, trivial⟩ (funs_fol ex p.fs _ (by simp) hg.shapes)
theorem ins_fold (ex : List UInt8) : ∀ (g : List In) (l : Int) (fs : List (List In)) (h : List In) (a b c : Int), g.all shapeI = true → (smL l (g.map (insL ex))).foldl stepP ⟨fs ++ [h], a, b, c⟩ = ⟨fs ++ [h ++ g], a, b, c⟩
  | [], l, fs, h, a, b, c, _ => by simp [smL]
  | x :: r, l, fs, h, a, b, c, hs => by
    simp only [List.all_cons, Bool.and_eq_true] at hs
    have hx := shp hs.1
    have h1 := hx.lo
    have h2 := hx.hi
    simp only [List.map_cons, smL, insL_rd ex hs.1, List.foldl_cons]
    have e : stepP ⟨fs ++ [h], a, b, c⟩ ⟨x.o.toNat, xsOf x, l⟩ = ⟨fs ++ [h ++ [x]], a, b, c⟩ := by
      unfold stepP
      simp only
      rw [if_neg (by omega), if_neg (by omega), if_neg (by omega), if_neg (by omega), xs_back hs.1]
      simp [pushL]
    rw [e, ins_fold ex r _ _ _ _ _ _ hs.2]
    simp
theorem funs_fold (ex : List UInt8) : ∀ (gs : List (List In)) (l : Int) (fs : List (List In)) (a b c : Int), (∀ f ∈ gs, f.all shapeI = true) → (smL l (funsL ex gs)).foldl stepP ⟨fs, a, b, c⟩ = ⟨fs ++ gs, a, b, c⟩
  | [], l, fs, a, b, c, _ => by simp [funsL, smL]
  | f :: r, l, fs, a, b, c, h => by
    have e : funsL ex (f :: r) = fnX ex :: (f.map (insL ex) ++ funsL ex r) := rfl
    rw [e]
    simp only [smL, fnX_rd, List.foldl_cons]
    have e2 : stepP ⟨fs, a, b, c⟩ ⟨19, [], l⟩ = ⟨fs ++ [[]], a, b, c⟩ := rfl
    rw [e2, smL_app, List.foldl_append, ins_fold ex f _ _ _ _ _ _ (h f (by simp)), funs_fold ex r _ _ _ _ _ fun g hg => h g (by simp [hg])]
    simp
theorem prog_fold (ex : List UInt8) (l : Int) {p : Pr} (hg : C2.Good p) : progF (smL l (progL ex p)) = p := by
  unfold progF progL
  rw [smL_app, List.foldl_append]
  have e : (smL l [hdL ex 16 p.futs, hdL ex 17 p.depth, hdL ex 18 p.fuel]).foldl stepP pr0 = ⟨[], p.futs, p.depth, p.fuel⟩ := rfl
  rw [e, funs_fold ex p.fs _ _ _ _ _ hg.shapes]
  rfl
theorem smL_mem : ∀ (L : List Line) (l : Int), ∀ s ∈ smL l L, ∃ t ∈ L, t.rd = some (s.k, s.xs)
  | [], l, s, h => by simp [smL] at h
  | t :: r, l, s, h => by
    unfold smL at h
    cases ht : t.rd with
    | none =>
      rw [ht] at h
      obtain ⟨u, hu, e⟩ := smL_mem r _ s h
      exact ⟨u, by simp [hu], e⟩
    | some q =>
      obtain ⟨k, xs⟩ := q
      rw [ht] at h
      rcases List.mem_cons.1 h with rfl | h
      · exact ⟨t, by simp, ht⟩
      · obtain ⟨u, hu, e⟩ := smL_mem r _ s h
        exact ⟨u, by simp [hu], e⟩
theorem outF_none : ∀ (L : List Sm), (∀ s ∈ L, rangeB s = true) → outF L = 0
  | [], _ => rfl
  | s :: r, h => by
    unfold outF
    rw [if_pos (h s (by simp))]
    exact outF_none r fun t ht => h t (by simp [ht])
theorem prog_range (ex : List UInt8) (l : Int) {p : Pr} (hg : C2.Good p) : outF (smL l (progL ex p)) = 0 := by
  refine outF_none _ fun s hs => ?_
  obtain ⟨t, ht, e⟩ := smL_mem _ _ s hs
  have hf := hg.futs
  have hd := hg.depth
  have hu := hg.fuel
  rcases List.mem_append.1 ht with h | h
  · simp at h
    rcases h with rfl | rfl | rfl
    · rw [hdL_rd ex 16 _ (by omega)] at e
      simp at e
      simp [rangeB, ← e.1, ← e.2, x0, inB, hf]
    · rw [hdL_rd ex 17 _ (by omega)] at e
      simp at e
      simp [rangeB, ← e.1, ← e.2, x0, inB, hd]
    · rw [hdL_rd ex 18 _ (by omega)] at e
      simp at e
      simp [rangeB, ← e.1, ← e.2, x0, inB, hu]
  · unfold funsL at h
    rw [List.mem_flatten] at h
    obtain ⟨L, hL, hs⟩ := h
    obtain ⟨f, hf, rfl⟩ := List.mem_map.1 hL
    rcases List.mem_cons.1 hs with rfl | hs
    · rw [fnX_rd] at e
      simp at e
      simp [rangeB, ← e.1]
    · obtain ⟨x, hx, rfl⟩ := List.mem_map.1 hs
      have hsx : shapeI x = true := List.all_eq_true.1 (hg.shapes f hf) x hx
      have hx2 := (shp hsx).hi
      rw [insL_rd ex hsx] at e
      simp at e
      obtain ⟨e1, e2⟩ := e
      unfold rangeB
      rw [← e1, ← e2, if_neg (by omega), if_neg (by omega), if_neg (by omega), if_neg (by omega), xs_back hsx]
      exact hsx
theorem prog_st (ex : List UInt8) (l : Int) {p : Pr} (hg : C2.Good p) : ofS (stL [] 0 l (progL ex p)) = (p, 0, 0) := by
  rw [stL_fol (progL ex p) [] 0 l (prog_fol ex hg) (by simp [progL])]
  unfold ofS
  simp only [List.nil_append]
  rw [prog_fold ex l hg, prog_range ex l hg, if_neg (by rw [((good_iff p).1 hg).1]; simp), if_neg (by simp)]

/-! how long -/
theorem decN_len11 : ∀ (n : Nat), n < 100000000000 → (decN n).length ≤ 11 := by
  intro n hn
  have h : ∀ (k n : Nat), n < 10 ^ (k + 1) → (decN n).length ≤ k + 1 := by
    intro k
    induction k with
    | zero => intro n hn; rw [decN, if_pos (by simpa using hn)]; simp
    | succ k ih =>
      intro n hn
      rw [decN]
      split
      · simp
      · have := ih (n / 10) (by rw [Nat.pow_succ] at hn; omega)
        simp
        omega
  exact h 10 n (by simpa using hn)
theorem decB_len {v : Int} (h : inR v) : (decB v).length ≤ 12 := by
  unfold inR at h
  have := decN_len11 v.natAbs (by omega)
  unfold decB signL
  split <;> simp <;> omega
theorem more_len (ex : List UInt8) : ∀ (xs : List Int), (∀ y ∈ xs, inR y) → (moreB (spx ex) xs).length ≤ (14 + ex.length) * xs.length
  | [], _ => by simp [moreB]
  | y :: r, h => by
    have h1 := decB_len (h y (by simp))
    have h2 := more_len ex r fun z hz => h z (by simp [hz])
    simp [moreB, spx] at h2 ⊢
    rw [Nat.mul_add]
    omega
theorem ops_len (ex : List UInt8) (xs : List Int) (h : ∀ y ∈ xs, inR y) : (opsB (spx ex) xs).length ≤ (14 + ex.length) * xs.length := by
  cases xs with
  | nil => simp [opsB]
  | cons y r =>
    have h1 := decB_len (h y (by simp))
    have h2 := more_len ex r fun z hz => h z (by simp [hz])
    simp [opsB, spx] at h2 ⊢
    rw [Nat.mul_add]
    omega
theorem word_len (k : Nat) (h : k < 20) : (wordOf k).length ≤ 8 := by
  have h2 : ∀ k, k < 20 → (wordOf k).length ≤ 8 := by decide
  exact h2 k h
theorem insL_len {ex : List UInt8} (hx : ex.length ≤ 3) {x : In} (h : shapeI x = true) : (insL ex x).x.length ≤ 70 := by
  have hs := shp h
  have h2 := hs.hi
  have h3 := ops_len ex (xsOf x) (xs_in h)
  have h4 := word_len x.o.toNat (by omega)
  have h5 : (xsOf x).length ≤ 3 := by unfold xsOf; rw [List.length_take]; simp; omega
  have h6 : (14 + ex.length) * (xsOf x).length ≤ 17 * 3 := Nat.mul_le_mul (by omega) h5
  show (lnB _ _ _ _).length ≤ _
  simp [lnB, spx] at h3 ⊢
  omega
theorem hdL_len {ex : List UInt8} (hx : ex.length ≤ 3) {k : Nat} (hk : k < 20) {v : Int} (h : inR v) : (hdL ex k v).x.length ≤ 26 := by
  have h3 := ops_len ex [v] (fun y hy => by simp at hy; subst hy; exact h)
  have h4 := word_len k hk
  show (lnB _ _ _ _).length ≤ _
  simp [lnB] at h3 ⊢
  omega
theorem textL_app (A B : List Line) : textL (A ++ B) = textL A ++ textL B := by simp [textL]
theorem textL_len : ∀ (L : List Line) (m : Nat), (∀ s ∈ L, s.x.length ≤ m) → (textL L).length ≤ m * L.length
  | [], m, _ => by simp [textL]
  | s :: r, m, h => by
    have h1 := h s (by simp)
    have h2 := textL_len r m fun t ht => h t (by simp [ht])
    simp [textL] at h2 ⊢
    rw [Nat.mul_add]
    omega
theorem prog_line_len {ex : List UInt8} (hx : ex.length ≤ 3) {p : Pr} (hg : C2.Good p) : ∀ s ∈ progL ex p, s.x.length ≤ 70 := by
  intro s hs
  have hf := hg.futs
  have hd := hg.depth
  have hu := hg.fuel
  rcases List.mem_append.1 hs with h | h
  · simp at h
    rcases h with rfl | rfl | rfl
    · have := hdL_len hx (k := 16) (by omega) (v := p.futs) (by unfold inR; omega); omega
    · have := hdL_len hx (k := 17) (by omega) (v := p.depth) (by unfold inR; omega); omega
    · have := hdL_len hx (k := 18) (by omega) (v := p.fuel) (by unfold inR; omega); omega
  · unfold funsL at h
    rw [List.mem_flatten] at h
    obtain ⟨L, hL, hs⟩ := h
    obtain ⟨f, hf, rfl⟩ := List.mem_map.1 hL
    rcases List.mem_cons.1 hs with rfl | hs
    · show (lnB _ _ _ _).length ≤ _
      have := word_len 19 (by omega)
      simp [lnB, opsB]
      omega
    · obtain ⟨x, hx2, rfl⟩ := List.mem_map.1 hs
      exact insL_len hx (List.all_eq_true.1 (hg.shapes f hf) x hx2)
end Go.Proofs.YtnhogbgnnnniaaaDoor
