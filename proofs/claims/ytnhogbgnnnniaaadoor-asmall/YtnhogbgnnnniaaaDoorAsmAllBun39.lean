/-
  Helpers: WrW, TxW.
-/
import Derived.Test.YtnhogbgnnnniaaaDoorAsmAllBun38
import Derived.Test.YtnhogbgnnnniaaaDoorAsmAllBun9
import Derived.Lib.AppendIntMem
namespace Go.Proofs.YtnhogbgnnnniaaaDoor
open Go.RowKit L3

theorem itoa_dec (n : Int) : Lib.itoa n = decB n := by
  have key : ∀ k : Nat, Lib.decDigits k = decN k := by
    intro k
    induction k using Nat.strongRecOn with
    | _ k ih =>
      rw [Lib.decDigits, decN]
      by_cases h : k < 10
      · rw [dif_pos h, if_pos h]
      · rw [dif_neg h, if_neg h, ih (k / 10) (by omega)]
  unfold Lib.itoa decB signL
  by_cases h : n < 0
  · rw [if_pos h, if_pos h, key]
  · rw [if_neg h, if_neg h, key]
    congr 1
    omega
/-- the library's table of powers lies in memory -/
def PTab (w : World) : Prop := Lib.TabIs Tryd.prog w "internal/strconv.uint64pow10" .u64 Lib.pow10Tab
theorem gPow : Tryd.prog.globalNamed "internal/strconv.uint64pow10" = some 2 := by kernel_rfl
theorem PTab.low {B : Nat} {w w' : World} (h : PTab w) (hb : Below B w w') (hB : 2 < B) : PTab w' := by
  unfold PTab Lib.TabIs World.var? at h ⊢
  rw [gPow] at h ⊢
  simpa [hb.block _ hB] using h
theorem FTab.low {B : Nat} {w w' : World} (h : FTab w) (hb : Below B w w') (hB : 0 < B) : FTab w' := fun i hi => by
  obtain ⟨h1, h2⟩ := h i hi
  exact ⟨by rw [hb.cell hB]; exact h1, by rw [hb.cell hB]; exact h2⟩
def itoaS (v : Int) : ByteArray := decS v
theorem itoa_any (v : Int) (h : inR v) (w : World) (hP : PTab w) : Calls Tryd.prog 71 #[.int .i64 v] w fun e w' => e = .returned (.string (decS v)) ∧ ∃ k os, w' = Sort.grow (w.drewN k) os := by
  have hc := Tryd.strconv_Itoa v (by unfold inR at h; omega) (by unfold inR at h; omega) w hP
  rw [itoa_dec] at hc
  exact hc
/-- a builder that holds l -/
abbrev IsB (B b : Nat) (l : List UInt8) (w : World) : Prop := Lib.IsBuilderF 72 5 B b (Lib.byteCells l) w
theorem isB_more {B b : Nat} {l x : List UInt8} {s : ByteArray} {w : World} (hs : s = strB x) (h : Lib.BuilderAtF 72 5 B b (.pointer (some ⟨b, 0, none⟩)) (Lib.byteCells l ++ Lib.strCells s) w) : IsB B b (l ++ x) w := by
  have e : Lib.byteCells l ++ Lib.strCells s = Lib.byteCells (l ++ x) := by
    rw [hs]
    simp [Lib.byteCells, Lib.strCells, strB]
  rw [e] at h
  exact .inr h
/-- the builder goes on from w to w': what it holds, and what is left as it was -/
structure Went (B b : Nat) (w w' : World) (l : List UInt8) : Prop where
  is : IsB B b l w'
  low : Below B w w'
  oth : Lib.OthersKept 5 (some b) w w'
theorem Went.then {B b : Nat} {w w1 w2 : World} {l m : List UInt8} (h : Went B b w w1 l) (k : Went B b w1 w2 m) : Went B b w w2 m := ⟨k.is, h.low.trans k.low, h.oth.trans k.oth⟩
theorem Went.size {B b : Nat} {w w' : World} {l : List UInt8} (h : Went B b w w' l) (hB : B ≤ w.heap.size) : B ≤ w'.heap.size := by have := h.low.size; omega
theorem wr_any {B b : Nat} {l x : List UInt8} {s : ByteArray} {w : World} (hs : s = strB x) (h : IsB B b l w) (hl : l.length + x.length ≤ 100000) (hB : B ≤ w.heap.size) :
    Calls Tryd.prog 40 #[.pointer (some ⟨b, 0, none⟩), .string s] w fun e w' => (∃ v, e = .returned v) ∧ Went B b w w' (l ++ x) := by
  refine (writeS_any B b _ s w h (by rw [Lib.byteCells_length, hs, strB_size]; omega) hB).mono ?_
  rintro e w' ⟨rfl, h1, h2, h3⟩
  exact ⟨⟨_, rfl⟩, isB_more hs h1, h2, h3⟩
/-- a builder is there still, where its block and its row are -/
theorem isB_grow {B b : Nat} {l : List UInt8} {w : World} (h : IsB B b l w) (k : Nat) (os : Array Obj) : IsB B b l (Sort.grow (w.drewN k) os) := by
  have key : ∀ {p : Value}, Lib.BuilderAtF 72 5 B b p (Lib.byteCells l) w → Lib.BuilderAtF 72 5 B b p (Lib.byteCells l) (Sort.grow (w.drewN k) os) := by
    rintro p ⟨hB, v, hb, ho, hne⟩
    refine ⟨hB, v, ?_, ?_, hne⟩
    · rw [Lib.heap_grow_old w k os b (lt_of_block hb)]
      exact hb
    · obtain ⟨h1, h2⟩ := ho
      refine ⟨h1, ?_⟩
      rcases h2 with h2 | ⟨g, cap, cur, fz, hv, hg, hc, r⟩
      · exact .inl h2
      · exact .inr ⟨g, cap, cur, fz, hv, hg, by rw [Lib.heap_grow_old w k os g (lt_of_block hc)]; exact hc, r⟩
  rcases h with h | h
  · exact .inl (key h)
  · exact .inr (key h)
theorem went_grow {B b : Nat} {l : List UInt8} {w : World} (h : IsB B b l w) (hB : B ≤ w.heap.size) (k : Nat) (os : Array Obj) : Went B b w (Sort.grow (w.drewN k) os) l :=
  ⟨isB_grow h k os, Lib.below_grow B w hB k os, fun j o hj _ _ => by rw [Lib.heap_grow_old w k os j (lt_of_block hj)]; exact hj⟩
theorem moreB_snoc (sp : List UInt8) (y : Int) : ∀ xs, moreB sp (xs ++ [y]) = moreB sp xs ++ ([44] ++ sp ++ decB y)
  | [] => by simp [moreB]
  | x :: r => by simp [moreB, moreB_snoc sp y r]
theorem opsB_step (xs : List Int) (j : Nat) (h : j < xs.length) : opsB [32] (xs.take (j + 1)) = opsB [32] (xs.take j) ++ ((if j = 0 then [32] else [44, 32]) ++ decB xs[j]) := by
  rw [List.take_succ_eq_append_getElem h]
  by_cases h0 : j = 0
  · subst h0
    simp [opsB, moreB]
  · rw [if_neg h0]
    cases xs with
    | nil => simp at h
    | cons x r =>
      obtain ⟨k, rfl⟩ : ∃ k, j = k + 1 := ⟨j - 1, by omega⟩
      simp only [List.take_succ_cons, List.cons_append, opsB, moreB_snoc]
      simp
def betw (j : Nat) : List UInt8 := if j = 0 then [32] else [44, 32]
/-- operands in a row of their own -/
structure OpsAt (b : Nat) (oa : Option Addr) (xs : List Int) (w : World) : Prop where
  row : xs ≠ [] → ∃ g c, oa = some ⟨g, 0, none⟩ ∧ g ≠ b ∧ w.heap[g]? = some (.cells c 3 (0, 0)) ∧ ∀ j (h : j < xs.length), c[j]? = some (.int .i64 xs[j])
theorem OpsAt.kept {b : Nat} {oa : Option Addr} {xs : List Int} {w w' : World} (h : OpsAt b oa xs w) (ho : Lib.OthersKept 5 (some b) w w') : OpsAt b oa xs w' := ⟨fun hx => by
  obtain ⟨g, c, h1, h2, h3, h4⟩ := h.row hx
  exact ⟨g, c, h1, h2, ho g _ h3 (fun e => h2 (Option.some.inj e)) (fun c' fz e => by injection e with _ e2 _; exact absurd e2 (by decide)), h4⟩⟩
set_option maxHeartbeats 2000000 in
set_option maxRecDepth 4000 in
theorem write_any (B b : Nat) (l : List UInt8) (k : Nat) (hk1 : 1 ≤ k) (hk2 : k ≤ 19) (oa : Option Addr) (on oc : Nat) (xs : List Int) (w : World) (hx : (xs.length : Int) = opsOf k) (hin : ∀ y ∈ xs, inR y)
    (hon : xs.length ≤ on) (hoc : on ≤ oc) (hom : oc ≤ 9223372036854775807) (hO : OpsAt b oa xs w) (hI : IsB B b l w) (hB : B ≤ w.heap.size) (hF : FTab w) (hFB : 0 < B) (hP : PTab w) (hPB : 2 < B) (hl : l.length ≤ 90000) :
    Calls Tryd.prog 39 #[.pointer (some ⟨b, 0, none⟩), .int .i64 (k : Int), .slice oa on oc] w fun e w' => e = .returned (.tuple #[]) ∧ Went B b w w' (l ++ (wordOf k ++ opsB [32] xs ++ [10])) := by
  obtain ⟨f0, f1⟩ := hF k (by omega)
  have hfl := block_lt_of_cell f0
  have hwl := word_len k (by omega)
  have hw1 := wr_any (s := strB (wordOf k)) rfl hI (by omega) hB
  obtain ⟨SW, hSW⟩ : ∃ S, strB (wordOf k) = S := ⟨_, rfl⟩
  rw [hSW] at f0 hw1
  clear hSW
  go_enter Tryd.func39, Tryd.ntmps39
  go_wp2_with fail
  refine hw1.mono ?_
  rintro e w1 ⟨⟨v1, rfl⟩, hW1⟩
  have g1 := ((hF.low hW1.low hFB) k (by omega)).2
  have hgl := block_lt_of_cell g1
  rw [← hx] at g1
  clear hw1 f0 f1 hfl
  have HW1 : Hid (Went B b w w1 (l ++ wordOf k)) := hW1
  have HO : Hid (OpsAt b oa xs w) := hO
  have HP : Hid (PTab w) := hP
  have hBw1 := hW1.size hB
  have hx3 : xs.length ≤ 3 := by have := opsOf_bd k; omega
  clear hW1 hO hP hF hI
  go_wp2_with fail
  go_loopw [6, 22] (fun bv iv wr => ∃ j : Nat, j ≤ xs.length ∧ iv = .int .i64 j ∧ bv = .string (strB (betw j)) ∧ Went B b w1 wr (l ++ wordOf k ++ opsB [32] (xs.take j))) (fun _ iv _ => xs.length - (intOf iv).toNat)
  case atStart => exact ⟨0, by omega, rfl, rfl, ⟨by simpa [opsB] using HW1.out.is, Below.refl _ _, Lib.OthersKept.refl _ _ _⟩⟩
  case round =>
    obtain ⟨j, hj, rfl, rfl, hWj⟩ := hrel
    have hol : (opsB [32] (xs.take j)).length ≤ 14 * 3 := by
      have h1 := ops_len [] (xs.take j) fun y hy => hin y (List.mem_of_mem_take hy)
      have h2 : (xs.take j).length ≤ 3 := by rw [List.length_take]; omega
      have h3 : (14 + ([] : List UInt8).length) * (xs.take j).length ≤ 14 * 3 := Nat.mul_le_mul (by simp) h2
      simp only [spx] at h1
      omega
    by_cases hlt : j < xs.length
    · obtain ⟨g, c, rfl, hgb, hgh, hgc⟩ := (HO.out.kept (HW1.out.oth.trans hWj.oth)).row (fun e => by rw [e] at hlt; simp at hlt)
      have hc : wr.cell? ⟨g, j, none⟩ = some (.int .i64 xs[j]) := by rw [cell_of_row wr g j _ _ _ hgh]; exact hgc j hlt
      have hcl := block_lt_of_cell hc
      have hiv := hin xs[j] (List.getElem_mem hlt)
      have hPw := HP.out.low (HW1.out.low.trans hWj.low) hPB
      have hit := itoa_any xs[j] hiv wr hPw
      have hst := opsB_step xs j hlt
      have hzd := str_len (S := decS xs[j]) rfl (decB_len hiv)
      have hbl : (betw j).length ≤ 2 := by unfold betw; split <;> simp
      have hzb : (strB (betw j)).size ≤ 2 := by rw [strB_size]; exact hbl
      have hcat : strB (betw j) ++ decS xs[j] = strB (betw j ++ decB xs[j]) := strB_append _ _
      have hdl := decB_len hiv
      have hwr := fun (W : World) (hI : IsB B b (l ++ wordOf k ++ opsB [32] (xs.take j)) W) (hB : B ≤ W.heap.size) => wr_any hcat hI (by simp only [List.length_append]; omega) hB
      have HST : Hid (opsB [32] (xs.take (j + 1)) = opsB [32] (xs.take j) ++ (betw j ++ decB xs[j])) := hst
      have HWJ : Hid (Went B b w1 wr (l ++ wordOf k ++ opsB [32] (xs.take j))) := hWj
      have hBr := hWj.size hBw1
      have HNX : Hid (Value.string ⟨#[44, 32]⟩ = .string (strB (betw (j + 1)))) := show Value.string ⟨#[44, 32]⟩ = .string (strB (betw (j + 1))) by unfold betw; rw [if_neg (by omega)]; rfl
      clear hst hcat hWj hgh hgc hPw
      generalize strB (betw j) = SB at *
      generalize hv : xs[j] = v at *
      generalize decS v = SD at *
      clear hv
      go_wp2_with fail
      refine hit.mono ?_
      rintro e w2 ⟨rfl, q, os, rfl⟩
      have hW2 := HWJ.out.then (went_grow HWJ.out.is hBr q os)
      have hw2 := hwr _ hW2.is (hW2.size hBw1)
      have HW2 : Hid (Went B b w1 (Sort.grow (wr.drewN q) os) (l ++ wordOf k ++ opsB [32] (xs.take j))) := hW2
      clear hit hwr hW2 HWJ
      generalize Sort.grow (wr.drewN q) os = w2 at *
      go_wp2_with fail
      refine hw2.mono ?_
      rintro e w3 ⟨⟨v3, rfl⟩, hW3⟩
      have HW3 : Hid (Went B b w1 w3 (l ++ wordOf k ++ opsB [32] (xs.take (j + 1)))) := show Went B b w1 w3 (l ++ wordOf k ++ opsB [32] (xs.take (j + 1))) by
        have h := HW2.out.then hW3
        rw [HST.out]
        simpa [List.append_assoc] using h
      clear hw2 hW3 HW2
      go_wp2_with fail
      go_roundw
      case rel => exact ⟨j + 1, by omega, by go_num, HNX.out, HW3.out⟩
      case measure => simp [intOf]; omega
    · obtain rfl : j = xs.length := by omega
      rw [List.take_length] at hWj hol
      have hw2 := wr_any (s := ⟨#[10]⟩) (x := [10]) rfl hWj.is (by simp only [List.length_append, List.length_cons, List.length_nil]; omega) (hWj.size hBw1)
      have HWJ : Hid (Went B b w1 wr (l ++ wordOf k ++ opsB [32] xs)) := hWj
      clear hWj
      go_wp2_with fail
      refine hw2.mono ?_
      rintro e w3 ⟨⟨v3, rfl⟩, hW3⟩
      have HW3 : Hid (Went B b w w3 (l ++ (wordOf k ++ opsB [32] xs ++ [10]))) := show Went B b w w3 (l ++ (wordOf k ++ opsB [32] xs ++ [10])) by
        have h := HW1.out.then (HWJ.out.then hW3)
        simpa [List.append_assoc] using h
      clear hw2 hW3
      go_wp2_with fail
      go_end0
      exact ⟨rfl, HW3.out⟩
end Go.Proofs.YtnhogbgnnnniaaaDoor
namespace Go.Proofs.YtnhogbgnnnniaaaDoor
open Go.RowKit L3
open C2 (In Pr shapeI SlF SlI InsAt putE putT BoxedP Tab)

theorem isB_lt {B b : Nat} {l : List UInt8} {w : World} (h : IsB B b l w) : b < w.heap.size := by
  rcases h with ⟨_, v, hb, _⟩ | ⟨_, v, hb, _⟩ <;> exact lt_of_block hb
theorem isB_alloc {B b : Nat} {l : List UInt8} {w : World} (h : IsB B b l w) (o : Obj) : IsB B b l (w.alloc o) := by
  have key : ∀ {p : Value}, Lib.BuilderAtF 72 5 B b p (Lib.byteCells l) w → Lib.BuilderAtF 72 5 B b p (Lib.byteCells l) (w.alloc o) := by
    rintro p ⟨hB, v, hb, ho, hne⟩
    refine ⟨hB, v, ?_, ?_, hne⟩
    · rw [Below.heap_alloc _ _ _ (lt_of_block hb)]
      exact hb
    · obtain ⟨h1, h2⟩ := ho
      refine ⟨h1, ?_⟩
      rcases h2 with h2 | ⟨g, cap, cur, fz, hv, hg, hc, r⟩
      · exact .inl h2
      · exact .inr ⟨g, cap, cur, fz, hv, hg, by rw [Below.heap_alloc _ _ _ (lt_of_block hc)]; exact hc, r⟩
  rcases h with h | h
  · exact .inl (key h)
  · exact .inr (key h)
theorem went_alloc {B b : Nat} {l : List UInt8} {w : World} (h : IsB B b l w) (hB : B ≤ w.heap.size) (o : Obj) : Went B b w (w.alloc o) l :=
  ⟨isB_alloc h o, (Below.refl _ _).alloc hB _, (Lib.OthersKept.refl _ _ _).alloc o⟩
theorem ops_one {w : World} {G : Nat} (hG : w.heap.size = G) (b : Nat) (v : Int) (hb : b < G) : OpsAt b (some ⟨G, 0, none⟩) [v] (w.alloc (.cells #[.int .i64 v] 3)) := by
  subst hG
  refine ⟨fun _ => ⟨_, _, rfl, by omega, heap_alloc_new _ _, fun j h => ?_⟩⟩
  obtain rfl : j = 0 := by simpa using h
  rfl
theorem ops_three {w : World} {G : Nat} (hG : w.heap.size = G) (b : Nat) (x : In) (hb : b < G) : OpsAt b (some ⟨G, 0, none⟩) (xsOf x) (w.alloc (.cells #[.int .i64 x.a, .int .i64 x.b, .int .i64 x.c] 3)) := by
  subst hG
  refine ⟨fun _ => ⟨_, _, rfl, by omega, heap_alloc_new _ _, fun j h => ?_⟩⟩
  have e : (xsOf x)[j] = [x.a, x.b, x.c][j]'(by unfold xsOf at h; rw [List.length_take] at h; omega) := by simp [xsOf]
  rw [e]
  have hj : j < 3 := by unfold xsOf at h; rw [List.length_take] at h; simp at h; omega
  rcases (by omega : j = 0 ∨ j = 1 ∨ j = 2) with rfl | rfl | rfl <;> rfl
theorem ops_none (b : Nat) (w : World) : OpsAt b none [] w := ⟨fun h => absurd rfl h⟩
theorem QT_more (p : Pr) (i : Nat) (f : List In) (k : Nat) (h : k < f.length) : QT p i f k ++ [32, 32] ++ (wordOf f[k].o.toNat ++ opsB [32] (xsOf f[k]) ++ [10]) = QT p i f (k + 1) := by
  rw [← QT_step p i f k h]
  simp [UT, xsOf]
theorem hd_one (p : Pr) : ([] : List UInt8) ++ (wordOf 16 ++ opsB [32] [p.futs] ++ [10]) ++ (wordOf 17 ++ opsB [32] [p.depth] ++ [10]) ++ (wordOf 18 ++ opsB [32] [p.fuel] ++ [10]) = RT p 0 := by
  rw [RT_zero]
  simp [hd3, textL, hdL, wl, lnB, spx]
theorem hdx_len {v : Int} (k : Nat) (hk : k < 20) (h : inR v) : (wordOf k ++ opsB [32] [v] ++ [10]).length ≤ 30 := by
  have h1 := ops_len [] [v] (fun y hy => by simp at hy; subst hy; exact h)
  have h2 := word_len k hk
  simp [spx] at h1 ⊢
  omega
def TextPost (p : Pr) (w : World) (e : Ending) (w' : World) : Prop := e = .returned (.string (strB (txtF p))) ∧ Below w.heap.size w w'
set_option maxRecDepth 4000 in
set_option maxHeartbeats 4000000 in
theorem Text_any (p : Pr) (fv : Value) (w : World) (hT : Tab w) (hFT : FTab w) (hPT : PTab w) (hF : SlF w fv p.fs) (hn : p.fs.length ≤ 1000000) (hm : ∀ f ∈ p.fs, f.length ≤ 1000000) :
    Calls Tryd.prog 12 #[.agg #[fv, .int .i64 p.futs, .int .i64 p.depth, .int .i64 p.fuel]] w fun e w' => TextPost p w e w' := by
  have hF0 := hF
  obtain ⟨fa, fc, rfl, -⟩ := hF0
  have hB1 := BoxedP.made hF
  have hb1 := below_alloc (Below.refl w.heap.size w) (.cells #[.slice fa p.fs.length fc, .int .i64 p.futs, .int .i64 p.depth, .int .i64 p.fuel] 24)
  have hput := C2.Put_any p _ _ (hT.below hb1) hB1.fns hn hm
  have hf0 := hFT.pos
  have hp0 : 2 < w.heap.size := block_lt_of_cell (Lib.TabIs.cell hPT gPow 0 (by decide))
  clear hF
  go_enter Tryd.func12, Tryd.ntmps12
  go_wp2_with fail
  refine hput.mono ?_
  rintro e w1 ⟨rfl, hb1'⟩
  have hb2 := below_then hb1 hb1'
  have hB2 := hB1.kept hb1'
  clear hput hb1 hb1' hB1
  by_cases hp : putE p = 0
  · have hg := C2.good_of_code hp
    have HTX : Hid (txtF p = textP p) := show txtF p = textP p by unfold txtF; rw [if_pos hp]
    rw [hp]
    clear hp
    have hsz := hb2.size
    have hIB : IsB w1.heap.size w1.heap.size [] (w1.alloc (.cells #[.pointer none, .slice none 0 0] 72)) := Lib.IsBuilderF.of (Lib.fresh_isBuilder 72 5 w1)
    have hW0 : Went w1.heap.size w1.heap.size w1 (w1.alloc (.cells #[.pointer none, .slice none 0 0] 72)) [] := ⟨hIB, (Below.refl _ _).alloc (Nat.le_refl _) _, (Lib.OthersKept.refl _ _ _).alloc _⟩
    have HG : Hid (C2.Good p) := hg
    have HB2 : Hid (BoxedP w1 w.heap.size fa fc p) := hB2
    have HN : Hid (Below w.heap.size w w1) := hb2
    have HF1 : Hid (FTab w1) := hFT.below hb2
    have HP1 : Hid (PTab w1) := hPT.low hb2 hp0
    have HT1 : Hid (0 < w1.heap.size) := show 0 < w1.heap.size by omega
    have HT2 : Hid (2 < w1.heap.size) := show 2 < w1.heap.size by omega
    have hwB : w.heap.size < w1.heap.size := lt_of_block hB2.box
    -- write, at any world that the builder has gone to
    have hwrite : ∀ (W : World) (l : List UInt8) (k : Nat) (oa : Option Addr) (on oc : Nat) (xs : List Int), Went w1.heap.size w1.heap.size w1 W l → 1 ≤ k → k ≤ 19 → (xs.length : Int) = opsOf k → (∀ y ∈ xs, inR y) → xs.length ≤ on → on ≤ oc → oc ≤ 9223372036854775807 → OpsAt w1.heap.size oa xs W → l.length ≤ 90000 →
        Calls Tryd.prog 39 #[.pointer (some ⟨w1.heap.size, 0, none⟩), .int .i64 (k : Int), .slice oa on oc] W fun e w' => e = .returned (.tuple #[]) ∧ Went w1.heap.size w1.heap.size W w' (l ++ (wordOf k ++ opsB [32] xs ++ [10])) :=
      fun W l k oa on oc xs h h1 h2 h3 h4 h5 h6 h7 h8 h9 => write_any w1.heap.size w1.heap.size l k h1 h2 oa on oc xs W h3 h4 h5 h6 h7 h8 h.is (h.size (Nat.le_refl _)) (HF1.out.low h.low HT1.out) HT1.out (HP1.out.low h.low HT2.out) HT2.out h9
    have HWR : Hid (∀ (W : World) (l : List UInt8) (k : Nat) (oa : Option Addr) (on oc : Nat) (xs : List Int), Went w1.heap.size w1.heap.size w1 W l → 1 ≤ k → k ≤ 19 → (xs.length : Int) = opsOf k → (∀ y ∈ xs, inR y) → xs.length ≤ on → on ≤ oc → oc ≤ 9223372036854775807 → OpsAt w1.heap.size oa xs W → l.length ≤ 90000 →
        Calls Tryd.prog 39 #[.pointer (some ⟨w1.heap.size, 0, none⟩), .int .i64 (k : Int), .slice oa on oc] W fun e w' => e = .returned (.tuple #[]) ∧ Went w1.heap.size w1.heap.size W w' (l ++ (wordOf k ++ opsB [32] xs ++ [10]))) := hwrite
    have i1 : inR p.futs := by have := hg.futs; unfold inR; omega
    have i2 : inR p.depth := by have := hg.depth; unfold inR; omega
    have i3 : inR p.fuel := by have := hg.fuel; unfold inR; omega
    have l1 := hdx_len (v := p.futs) 16 (by omega) i1
    have l2 := hdx_len (v := p.depth) 17 (by omega) i2
    have l3 := hdx_len (v := p.fuel) 18 (by omega) i3
    generalize C2.strB (putT p) = SP
    have hBa := hB2.kept (below_one w1 (.cells #[.pointer none, .slice none 0 0] 72))
    obtain ⟨-, d1, -, -⟩ := hBa.cells
    have hdl := block_lt_of_cell d1
    clear hwrite hB2 hb2 hg hIB hBa
    have HW0 : Hid (Went w1.heap.size w1.heap.size w1 (w1.alloc (.cells #[.pointer none, .slice none 0 0] 72)) []) := hW0
    clear hW0
    go_wp2_with fail
    have hA := HW0.out.then (went_alloc HW0.out.is (by simp) (.cells #[.int .i64 p.futs] 3))
    refine (HWR.out _ _ 16 _ 1 1 [p.futs] hA (by omega) (by omega) rfl (fun y hy => by simp at hy; subst hy; exact i1) (by simp) (by omega) (by omega) (ops_one (by simp) _ _ (by omega)) (by simp)).mono ?_
    rintro e w2 ⟨rfl, hw2⟩
    have HA2 : Hid (Went w1.heap.size w1.heap.size w1 w2 ([] ++ (wordOf 16 ++ opsB [32] [p.futs] ++ [10]))) := hA.then hw2
    have hs2 := HA2.out.size (Nat.le_refl _)
    have hx2 := isB_lt HA2.out.is
    obtain ⟨-, -, d2, -⟩ := (HB2.out.kept HA2.out.low).cells
    have hdl2 := block_lt_of_cell d2
    clear hA hw2 d1 hdl HW0
    go_wp2_with fail
    have hA := HA2.out.then (went_alloc HA2.out.is hs2 (.cells #[.int .i64 p.depth] 3))
    refine (HWR.out _ _ 17 _ 1 1 [p.depth] hA (by omega) (by omega) rfl (fun y hy => by simp at hy; subst hy; exact i2) (by simp) (by omega) (by omega) (ops_one rfl _ _ (by omega)) (by simp only [List.length_append, List.length_nil] at l1 ⊢; omega)).mono ?_
    rintro e w3 ⟨rfl, hw3⟩
    have HA3 : Hid (Went w1.heap.size w1.heap.size w1 w3 ([] ++ (wordOf 16 ++ opsB [32] [p.futs] ++ [10]) ++ (wordOf 17 ++ opsB [32] [p.depth] ++ [10]))) := hA.then hw3
    have hs3 := HA3.out.size (Nat.le_refl _)
    have hx3 := isB_lt HA3.out.is
    obtain ⟨-, -, -, d3⟩ := (HB2.out.kept HA3.out.low).cells
    have hdl3 := block_lt_of_cell d3
    clear hA hw3 d2 hdl2 HA2
    go_wp2_with fail
    have hA := HA3.out.then (went_alloc HA3.out.is hs3 (.cells #[.int .i64 p.fuel] 3))
    refine (HWR.out _ _ 18 _ 1 1 [p.fuel] hA (by omega) (by omega) rfl (fun y hy => by simp at hy; subst hy; exact i3) (by simp) (by omega) (by omega) (ops_one rfl _ _ (by omega)) (by simp only [List.length_append, List.length_nil] at l1 l2 ⊢; omega)).mono ?_
    rintro e w4 ⟨rfl, hw4⟩
    have hR0 := hA.then hw4
    rw [hd_one p] at hR0
    have HR0 : Hid (Went w1.heap.size w1.heap.size w1 w4 (RT p 0)) := hR0
    obtain ⟨d0, -, -, -⟩ := (HB2.out.kept HR0.out.low).cells
    have hdl4 := block_lt_of_cell d0
    clear hA hw4 d3 hdl3 HA3 hR0 i1 i2 i3 l1 l2 l3 hs2 hs3 hx2 hx3
    go_wp2_with fail
    have hnf := HG.out.few
    go_loopw [32] (fun iv wr => ∃ i : Nat, i ≤ p.fs.length ∧ iv = .int .i64 i ∧ Went w1.heap.size w1.heap.size w1 wr (RT p i)) (fun iv _ => p.fs.length - (intOf iv).toNat)
    case atStart => exact ⟨0, by omega, rfl, HR0.out⟩
    case round =>
      obtain ⟨i, hi, rfl, hWi⟩ := hrel
      have HWI : Hid (Went w1.heap.size w1.heap.size w1 wr (RT p i)) := hWi
      have hB5 := HB2.out.kept hWi.low
      clear hWi
      by_cases hlt : i < p.fs.length
      · obtain ⟨fa', fc', he, hfx⟩ := HB2.out.fns
        obtain ⟨rfl, rfl⟩ : fa' = fa ∧ fc' = fc := by simp at he; exact ⟨he.1.symm, he.2.symm⟩
        clear he
        obtain ⟨g, f, u, rfl, hc1, xa, xc, rfl, hI⟩ := hfx i hlt
        have hc := C2.still_of_below HWI.out.low _ _ hc1
        have hgl := block_lt_of_cell hc
        have hsm := HG.out.small _ (List.getElem_mem hlt)
        have hsh := HG.out.shapes _ (List.getElem_mem hlt)
        have HQL : Hid (∀ k, (QT p i p.fs[i] k).length ≤ 50000) := QT_len p HG.out i hlt
        have HQD : Hid (QT p i p.fs[i] p.fs[i].length = RT p (i + 1)) := RT_step p i hlt
        have HQM : Hid (∀ k (h : k < p.fs[i].length), QT p i p.fs[i] k ++ [32, 32] ++ (wordOf p.fs[i][k].o.toNat ++ opsB [32] (xsOf p.fs[i][k]) ++ [10]) = QT p i p.fs[i] (k + 1)) := QT_more p i p.fs[i]
        have hrl := RT_len p HG.out i hi
        clear hfx hB5 hc1
        generalize hfi : p.fs[i] = fi at *
        clear hfi
        obtain ⟨W, rfl⟩ : ∃ W, W = wr := ⟨wr, rfl⟩
        have hw19 := HWR.out W _ 19 none 0 0 [] HWI.out (by omega) (by omega) rfl (fun y hy => by simp at hy) (by simp) (by omega) (by omega) (ops_none _ _) (by omega)
        go_wp2_with fail
        refine hw19.mono ?_
        rintro e w5 ⟨rfl, hw5⟩
        have hq0 := HWI.out.then hw5
        have e0 : RT p i ++ (wordOf 19 ++ opsB [32] [] ++ [10]) = QT p i fi 0 := by rw [QT_zero]; simp [opsB]
        rw [e0] at hq0
        have HQ0 : Hid (Went w1.heap.size w1.heap.size w1 w5 (QT p i fi 0)) := hq0
        clear hw19 hw5 e0 hq0
        go_wp2_with fail
        go_loopw [39] (fun kv wr => ∃ k : Nat, k ≤ fi.length ∧ kv = .int .i64 k ∧ Went w1.heap.size w1.heap.size w1 wr (QT p i fi k)) (fun kv _ => fi.length - (intOf kv).toNat)
        case atStart => exact ⟨0, by omega, rfl, HQ0.out⟩
        case round =>
          obtain ⟨k, hk, rfl, hWk⟩ := hrel
          have HWK : Hid (Went w1.heap.size w1.heap.size w1 wr (QT p i fi k)) := hWk
          have hsk := hWk.size (Nat.le_refl _)
          have hlk := isB_lt hWk.is
          clear hWk
          by_cases hkl : k < fi.length
          · obtain ⟨g', f', rfl, hA⟩ := hI k hkl
            have hs : shapeI fi[k] = true := List.all_eq_true.1 hsh _ (List.getElem_mem hkl)
            have hqm := HQM.out k hkl
            have hq := HQL.out k
            obtain ⟨y0, y1, y2, y3⟩ := hA.still (C2.still_of_below HWK.out.low)
            have y0l := block_lt_of_cell y0
            clear hA
            generalize hxk : fi[k] = x at *
            clear hxk
            have hsp := shp hs
            have hox := hsp.eq
            have ho1 := hsp.lo
            have ho2 := hsp.hi
            have HXS : Hid (∀ y ∈ xsOf x, inR y) := xs_in hs
            have HXL : Hid (((xsOf x).length : Int) = opsOf x.o.toNat) := xs_len x
            have hx3 : (xsOf x).length ≤ 3 := by unfold xsOf; rw [List.length_take]; simp; omega
            have HQM2 : Hid (QT p i fi k ++ [32, 32] ++ (wordOf x.o.toNat ++ opsB [32] (xsOf x) ++ [10]) = QT p i fi (k + 1)) := hqm
            clear hqm
            generalize hto : x.o.toNat = o at *
            rw [hox] at y0
            clear hto hox hsp hs
            have hbx := HWK.out.then (went_alloc HWK.out.is hsk (.cells #[.int .i64 (o : Int), .int .i64 x.a, .int .i64 x.b, .int .i64 x.c] 42))
            have hbh : (wr.alloc (.cells #[.int .i64 (o : Int), .int .i64 x.a, .int .i64 x.b, .int .i64 x.c] 42)).heap[wr.heap.size]? = some (.cells #[.int .i64 (o : Int), .int .i64 x.a, .int .i64 x.b, .int .i64 x.c] 42 (0, 0)) := heap_alloc_new _ _
            have hws := wr_any (s := ⟨#[32, 32]⟩) (x := [32, 32]) rfl hbx.is (by simp only [List.length_cons, List.length_nil]; omega) (hbx.size (Nat.le_refl _))
            have HBX : Hid (Went w1.heap.size w1.heap.size w1 (wr.alloc (.cells #[.int .i64 (o : Int), .int .i64 x.a, .int .i64 x.b, .int .i64 x.c] 42)) (QT p i fi k)) := hbx
            have HBH : Hid ((wr.alloc (.cells #[.int .i64 (o : Int), .int .i64 x.a, .int .i64 x.b, .int .i64 x.c] 42)).heap[wr.heap.size]? = some (.cells #[.int .i64 (o : Int), .int .i64 x.a, .int .i64 x.b, .int .i64 x.c] 42 (0, 0))) := hbh
            clear hbx hbh
            go_wp2_with fail
            refine hws.mono ?_
            rintro e w6 ⟨⟨v6, rfl⟩, hw6⟩
            have hb6 := hw6.oth _ _ HBH.out (fun e => by have := Option.some.inj e; omega) (fun c' fz e => by injection e with _ e2 _; exact absurd e2 (by decide))
            have z0 := cell_of_row _ _ 0 _ _ _ hb6
            have z1 := cell_of_row _ _ 1 _ _ _ hb6
            have z2 := cell_of_row _ _ 2 _ _ _ hb6
            have z3 := cell_of_row _ _ 3 _ _ _ hb6
            simp at z0 z1 z2 z3
            have z0l := block_lt_of_cell z0
            have h6 := HBX.out.then hw6
            have hA6 := h6.then (went_alloc h6.is (h6.size (Nat.le_refl _)) (.cells #[.int .i64 x.a, .int .i64 x.b, .int .i64 x.c] 3))
            have hl6 := isB_lt h6.is
            have hwo := HWR.out _ _ o _ 3 3 (xsOf x) hA6 (by omega) (by omega) HXL.out HXS.out hx3 (by omega) (by omega) (ops_three rfl _ x hl6) (by simp only [List.length_append, List.length_cons, List.length_nil]; omega)
            have HA6 : Hid (Went w1.heap.size w1.heap.size w1 (w6.alloc (.cells #[.int .i64 x.a, .int .i64 x.b, .int .i64 x.c] 3)) (QT p i fi k ++ [32, 32])) := hA6
            clear hws hw6 hb6 h6 hA6 HBX HBH y0 y1 y2 y3 y0l
            go_wp2_with fail
            refine hwo.mono ?_
            rintro e w7 ⟨rfl, hw7⟩
            have h7 := HA6.out.then hw7
            rw [HQM2.out] at h7
            have H7 : Hid (Went w1.heap.size w1.heap.size w1 w7 (QT p i fi (k + 1))) := h7
            clear hwo hw7 h7 HA6 z0 z1 z2 z3 z0l
            go_wp2_with fail
            go_roundw
            case rel => exact ⟨k + 1, by omega, by go_num, H7.out⟩
            case measure => simp [intOf]; omega
          · obtain rfl : k = fi.length := by omega
            have h8 := HWK.out
            rw [HQD.out] at h8
            have H8 : Hid (Went w1.heap.size w1.heap.size w1 wr (RT p (i + 1))) := h8
            clear h8
            go_wp2_with fail
            go_roundw
            case rel => exact ⟨i + 1, by omega, by go_num, H8.out⟩
            case measure => simp [intOf]; omega
      · obtain rfl : i = p.fs.length := by omega
        have h9 := HWI.out
        rw [RT_done] at h9
        have hst := Tryd.Builder_String_any_k w1.heap.size w1.heap.size (textP p) wr h9.is (h9.size (Nat.le_refl _))
        have hlow := h9.low
        clear h9 hB5
        go_wp2_with fail
        refine hst.mono ?_
        rintro e w9 ⟨rfl, -, hb9, -⟩
        go_wp2_with fail
        go_ret
        exact ⟨by rw [HTX.out]; rfl, HN.out.trans ((hlow.trans hb9).mono HN.out.size)⟩
  · have e1 : (putE p != 0) = true := by simpa using hp
    have HTX : Hid (txtF p = []) := show txtF p = [] by unfold txtF; rw [if_neg hp]
    generalize putE p = q at *
    generalize C2.strB (putT p) = SP
    go_wp2_with fail
    go_ret
    exact ⟨by rw [HTX.out]; rfl, hb2⟩
end Go.Proofs.YtnhogbgnnnniaaaDoor
