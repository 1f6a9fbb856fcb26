/-
  The reference's Text: what it answers at a program that may be put.
-/
import Derived.Test.YtdpagipbaddnfaaDoorRTxt
import Derived.Test.YtdpagipbaddnfaaDoorC2Ref4
namespace Go.Proofs.YtdpagipbaddnfaaDoor
open Go.RowKit L3
open C2 (In Pr shapeI SlF SlI InsAt putE putT)

def namesV : Array Value := ((List.range 16).map fun k => Value.string (strB (wordOf k))).toArray
theorem names_lit : namesV = #[.string ⟨#[]⟩, .string ⟨#[99, 111, 110, 115, 116]⟩, .string ⟨#[97, 100, 100]⟩, .string ⟨#[115, 117, 98]⟩, .string ⟨#[109, 117, 108]⟩, .string ⟨#[100, 105, 118]⟩, .string ⟨#[108, 101, 115, 115]⟩, .string ⟨#[106, 117, 109, 112]⟩, .string ⟨#[122, 101, 114, 111]⟩, .string ⟨#[102, 111, 114, 107]⟩, .string ⟨#[106, 111, 105, 110]⟩, .string ⟨#[115, 101, 116]⟩, .string ⟨#[103, 101, 116]⟩, .string ⟨#[99, 97, 110, 99, 101, 108]⟩, .string ⟨#[121, 105, 101, 108, 100]⟩, .string ⟨#[114, 101, 116]⟩] := by rfl
theorem names_at (k : Nat) (h : k < 16) : namesV[k]? = some (.string (strB (wordOf k))) := by
  have : ∀ k, k < 16 → namesV[k]? = some (.string (strB (wordOf k))) := fun k hk => by simp [namesV, hk]
  exact this k h
set_option maxRecDepth 4000 in
theorem names_any (w : World) : Calls Tryd.prog 38 #[] w fun e w' => e = .returned (.agg namesV) ∧ Below w.heap.size w w' := by
  rw [names_lit]
  have hb := below_one w
  go_enter Tryd.func38, Tryd.ntmps38
  go_wp2_with fail
  exact bodyPost_ret (v := .agg #[.string ⟨#[]⟩, .string ⟨#[99, 111, 110, 115, 116]⟩, .string ⟨#[97, 100, 100]⟩, .string ⟨#[115, 117, 98]⟩, .string ⟨#[109, 117, 108]⟩, .string ⟨#[100, 105, 118]⟩, .string ⟨#[108, 101, 115, 115]⟩, .string ⟨#[106, 117, 109, 112]⟩, .string ⟨#[122, 101, 114, 111]⟩, .string ⟨#[102, 111, 114, 107]⟩, .string ⟨#[106, 111, 105, 110]⟩, .string ⟨#[115, 101, 116]⟩, .string ⟨#[103, 101, 116]⟩, .string ⟨#[99, 97, 110, 99, 101, 108]⟩, .string ⟨#[121, 105, 101, 108, 100]⟩, .string ⟨#[114, 101, 116]⟩]) (by simp [results, Tryd.results38, go_sem]) rfl ⟨rfl, hb _⟩

/-! plain: the text under way -/
def hd3 (p : Pr) : List UInt8 := textL [hdL [] 16 p.futs, hdL [] 17 p.depth, hdL [] 18 p.fuel]
def RT (p : Pr) (i : Nat) : List UInt8 := hd3 p ++ textL (funsL [] (p.fs.take i))
def QT (p : Pr) (i : Nat) (f : List In) (k : Nat) : List UInt8 := RT p i ++ (wordOf 19 ++ [10]) ++ textL ((f.take k).map (insL []))
def UT (q : List UInt8) (x : In) (j : Nat) : List UInt8 := q ++ [32, 32] ++ wordOf x.o.toNat ++ opsB [32] ([x.a, x.b, x.c].take j)
def abc (x : In) (j : Nat) : Int := if j = 0 then x.a else if j = 1 then x.b else x.c
theorem RT_done (p : Pr) : RT p p.fs.length = textP p := by
  unfold RT textP hd3 progL
  rw [List.take_length, textL_app]
theorem RT_zero (p : Pr) : RT p 0 = hd3 p := by simp [RT, funsL, textL]
theorem RT_step (p : Pr) (i : Nat) (h : i < p.fs.length) : QT p i p.fs[i] p.fs[i].length = RT p (i + 1) := by
  unfold QT RT
  rw [List.take_length, List.take_succ_eq_append_getElem h]
  have e : ∀ A f, funsL [] (A ++ [f]) = funsL [] A ++ (fnX [] :: f.map (insL [])) := fun A f => by simp [funsL, funL]
  rw [e, textL_app]
  have e2 : textL (fnX [] :: p.fs[i].map (insL [])) = (wordOf 19 ++ [10]) ++ textL (p.fs[i].map (insL [])) := by simp [textL, fnX, wl, lnB, opsB]
  rw [e2]
  simp
theorem QT_zero (p : Pr) (i : Nat) (f : List In) : QT p i f 0 = RT p i ++ (wordOf 19 ++ [10]) := by simp [QT, textL]
theorem UT_step (q : List UInt8) (x : In) (j : Nat) (h : j < 3) : UT q x (j + 1) = UT q x j ++ (if 0 < j then [44] else []) ++ [32] ++ decB (abc x j) := by
  unfold UT abc
  rcases (by omega : j = 0 ∨ j = 1 ∨ j = 2) with rfl | rfl | rfl <;> simp [opsB, moreB]
theorem UT_zero (q : List UInt8) (x : In) : UT q x 0 = q ++ [32, 32] ++ wordOf x.o.toNat := by simp [UT, opsB]
theorem QT_step (p : Pr) (i : Nat) (f : List In) (k : Nat) (h : k < f.length) : UT (QT p i f k) f[k] (opsOf f[k].o.toNat).toNat ++ [10] = QT p i f (k + 1) := by
  unfold QT UT
  rw [List.take_succ_eq_append_getElem h]
  have e : ∀ A x, textL ((A ++ [x]).map (insL [])) = textL (A.map (insL [])) ++ (insL [] x).x := fun A x => by simp [textL]
  rw [e]
  simp [insL, wl, lnB, spx, xsOf]
theorem hd3_eq (p : Pr) : hd3 p = [102, 117, 116, 117, 114, 101, 115, 32] ++ decB p.futs ++ [10, 100, 101, 112, 116, 104, 32] ++ decB p.depth ++ [10, 102, 117, 101, 108, 32] ++ decB p.fuel ++ [10] := by
  simp [hd3, textL, hdL, wl, lnB, opsB, moreB, spx, wordOf, formsT]
theorem take_len_le (p : Pr) (hg : C2.Good p) (i : Nat) : (RT p i).length ≤ 100 + 2870 * i := by
  have h3 : (hd3 p).length ≤ 100 := by
    have h := textL_len [hdL [] 16 p.futs, hdL [] 17 p.depth, hdL [] 18 p.fuel] 33 fun s hs => by
      have hf := hg.futs
      have hd := hg.depth
      have hu := hg.fuel
      simp at hs
      rcases hs with rfl | rfl | rfl
      · have := hdL_len (ex := []) (by simp) (k := 16) (by omega) (v := p.futs) (by unfold inR; omega); omega
      · have := hdL_len (ex := []) (by simp) (k := 17) (by omega) (v := p.depth) (by unfold inR; omega); omega
      · have := hdL_len (ex := []) (by simp) (k := 18) (by omega) (v := p.fuel) (by unfold inR; omega); omega
    simp at h
    unfold hd3
    omega
  have key : ∀ (fs : List (List In)), (∀ f ∈ fs, f ∈ p.fs) → (textL (funsL [] fs)).length ≤ 2870 * fs.length := by
    intro fs
    induction fs with
    | nil => intro _; simp [funsL, textL]
    | cons f r ih =>
      intro h
      have ih := ih fun g hg => h g (by simp [hg])
      have e : funsL [] (f :: r) = funL [] f ++ funsL [] r := rfl
      rw [e, textL_app, List.length_append, List.length_cons]
      have hf := h f (by simp)
      have h1 := textL_len (funL [] f) 70 fun s hs => prog_line_len (ex := []) (by simp) hg s (by
        unfold progL funsL
        rw [List.mem_append]
        exact .inr (List.mem_flatten.2 ⟨_, List.mem_map.2 ⟨f, hf, rfl⟩, hs⟩))
      have h2 := hg.small f hf
      simp [funL] at h1 ⊢
      omega
  have h4 := key (p.fs.take i) fun f hf => List.mem_of_mem_take hf
  have h5 : (p.fs.take i).length ≤ i := by rw [List.length_take]; omega
  unfold RT
  rw [List.length_append]
  have h6 : 2870 * (p.fs.take i).length ≤ 2870 * i := Nat.mul_le_mul_left _ h5
  omega
theorem RT_len (p : Pr) (hg : C2.Good p) (i : Nat) (h : i ≤ p.fs.length) : (RT p i).length ≤ 40000 := by
  have h1 := take_len_le p hg i
  have h2 := hg.few
  omega
theorem QT_len (p : Pr) (hg : C2.Good p) (i : Nat) (h : i < p.fs.length) (k : Nat) : (QT p i p.fs[i] k).length ≤ 50000 := by
  have h1 := RT_len p hg i (by omega)
  have hf := List.getElem_mem h
  have h2 := textL_len ((p.fs[i].take k).map (insL [])) 70 fun s hs => by
    obtain ⟨x, hx, rfl⟩ := List.mem_map.1 hs
    exact insL_len (ex := []) (by simp) (List.all_eq_true.1 (hg.shapes _ hf) x (List.mem_of_mem_take hx))
  have h3 := hg.small _ hf
  have h4 : (p.fs[i].take k).length ≤ p.fs[i].length := by rw [List.length_take]; omega
  rw [List.length_map] at h2
  have h5 := word_len 19 (by omega)
  unfold QT
  simp only [List.length_append, List.length_cons, List.length_nil]
  omega
theorem UT_len (q : List UInt8) (x : In) (hs : shapeI x = true) (j : Nat) : (UT q x j).length ≤ q.length + 60 := by
  have h1 := shp hs
  have h2 := h1.hi
  have h3 := word_len x.o.toNat (by omega)
  have h4 := ops_len [] ([x.a, x.b, x.c].take j) fun y hy => by
    have := List.mem_of_mem_take hy
    simp at this
    rcases this with rfl | rfl | rfl
    · exact h1.a
    · exact h1.b
    · exact h1.c
  have h5 : ([x.a, x.b, x.c].take j).length ≤ 3 := by rw [List.length_take]; simp; omega
  have h6 : (14 + ([] : List UInt8).length) * ([x.a, x.b, x.c].take j).length ≤ 14 * 3 := Nat.mul_le_mul (by simp) h5
  unfold UT
  simp only [List.length_append, List.length_cons, List.length_nil, spx] at h4 ⊢
  omega
theorem abc_in {x : In} (h : shapeI x = true) (j : Nat) : inR (abc x j) := by
  have h1 := shp h
  unfold abc
  split
  · exact h1.a
  · split
    · exact h1.b
    · exact h1.c
/-- what Text answers -/
def txtF (p : Pr) : List UInt8 := if putE p = 0 then textP p else []
end Go.Proofs.YtdpagipbaddnfaaDoor
