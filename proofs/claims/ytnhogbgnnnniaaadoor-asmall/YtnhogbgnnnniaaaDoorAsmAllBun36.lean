/-
  Helpers: RTxt, RTxt2, RfI, RfV, RTxt3.
-/
import Derived.Test.YtnhogbgnnnniaaaDoorAsmAllBun35
import Derived.Test.YtnhogbgnnnniaaaDoorAsmAllBun34
import Derived.Test.YtnhogbgnnnniaaaDoorAsmAllBun12
import Derived.Test.YtnhogbgnnnniaaaDoorAsmAllBun16
import Derived.Test.YtnhogbgnnnniaaaDoorAsmAllBun29
import Derived.Test.YtnhogbgnnnniaaaDoorAsmAllBun31
namespace Go.Proofs.YtnhogbgnnnniaaaDoor
open Go.RowKit L3
open C2 (In Pr)

set_option maxRecDepth 4000 in
theorem rdecN_any : ∀ (n : Nat), n ≤ 4294967296 → ∀ (w : World), Calls Tryd.prog 43 #[.int .i64 (n : Int)] w fun e w' => e = .returned (.string (strB (decN n))) ∧ ∃ m, w' = w.drewN m := by
  intro n
  induction n using Nat.strongRecOn with
  | _ n ih =>
    intro hn w
    have hneg : decide ((n : Int) < 0) = false := by simp
    by_cases h10 : n < 10
    · have hd := fun W => dig_slice (n : Int) (by omega) (by omega) W
      rw [byteOf_dig n h10] at hd
      have e : decN n = [UInt8.ofNat (48 + n)] := by rw [decN, if_pos h10]
      rw [e]
      obtain ⟨S, hS⟩ : ∃ S, strB [UInt8.ofNat (48 + n)] = S := ⟨_, rfl⟩
      rw [hS] at hd ⊢
      clear hS e ih
      go_enter Tryd.func43, Tryd.ntmps43
      go_wp2_with fail
      go_ret
      exact ⟨rfl, 0, rfl⟩
    · have hq : (n : Int).tdiv 10 = ((n / 10 : Nat) : Int) := by rw [Int.tdiv_eq_ediv_of_nonneg (by omega)]; rfl
      have e : strB (decN n) = strB (decN (n / 10)) ++ strB [UInt8.ofNat (48 + n % 10)] := by
        rw [strB_append, decN, if_neg h10]
      have hd := fun W => dig_slice ((n % 10 : Nat) : Int) (by omega) (by omega) W
      rw [byteOf_dig (n % 10) (by omega)] at hd
      have hc := ih (n / 10) (by omega) (by omega)
      have hd10 : decide ((n : Int) < 10) = false := by simp; omega
      have hl1 := decN_len11 (n / 10) (by omega)
      have hs1 : (strB (decN (n / 10))).size = (decN (n / 10)).length := strB_size _
      have hs2 : (strB [UInt8.ofNat (48 + n % 10)]).size = 1 := rfl
      rw [e]
      obtain ⟨S, hS⟩ : ∃ S, strB (decN (n / 10)) = S := ⟨_, rfl⟩
      obtain ⟨S2, hS2⟩ : ∃ S, strB [UInt8.ofNat (48 + n % 10)] = S := ⟨_, rfl⟩
      rw [hS] at hs1 hc ⊢
      rw [hS2] at hs2 hd ⊢
      obtain ⟨m, hm⟩ : ∃ m, n / 10 = m := ⟨_, rfl⟩
      obtain ⟨r, hr⟩ : ∃ r, n % 10 = r := ⟨_, rfl⟩
      have hr' : (n : Int) % 10 = (r : Int) := by omega
      have hm' : (n : Int) / 10 = (m : Int) := by omega
      have hr9 : r < 10 := by omega
      rw [hm] at hc hs1 hl1 hq
      rw [hr] at hd
      clear hS hS2 e ih hm hr
      go_enter Tryd.func43, Tryd.ntmps43
      go_wp2_with fail
      go_quiet ((go_at_call 43; exact Calls.quiet_of (hc _)))
      go_wp2_with fail
      go_ret
      exact ⟨rfl, _, rfl⟩
set_option maxRecDepth 4000 in
theorem rdec_any (v : Int) (h1 : -4294967296 ≤ v) (h2 : v ≤ 4294967296) (w : World) : Calls Tryd.prog 43 #[.int .i64 v] w fun e w' => e = .returned (.string (strB (decB v))) ∧ ∃ m, w' = w.drewN m := by
  by_cases h0 : v < 0
  · have hn : decide (v < 0) = true := by simpa using h0
    obtain ⟨n, rfl⟩ : ∃ n : Nat, v = -(n : Int) := ⟨v.natAbs, by omega⟩
    have hc := rdecN_any n (by omega) w
    have e : strB (decB (-(n : Int))) = ⟨#[45]⟩ ++ strB (decN n) := by
      unfold decB signL
      rw [if_pos h0]
      simp [Int.natAbs_neg]
      rfl
    have hs1 : (strB (decN n)).size = (decN n).length := strB_size _
    have hl1 := decN_len11 n (by omega)
    rw [e]
    obtain ⟨S, hS⟩ : ∃ S, strB (decN n) = S := ⟨_, rfl⟩
    rw [hS] at hs1 hc ⊢
    clear hS e
    go_enter Tryd.func43, Tryd.ntmps43
    go_wp2_with fail
    refine hc.mono ?_
    rintro e w1 ⟨rfl, m, rfl⟩
    go_wp2_with fail
    go_ret
    exact ⟨rfl, _, rfl⟩
  · obtain ⟨n, rfl⟩ : ∃ n : Nat, v = (n : Int) := ⟨v.natAbs, by omega⟩
    have e : decB (n : Int) = decN n := by simp [decB, signL]
    rw [e]
    exact rdecN_any n (by omega) w
/-- how many of the first i are not 0 -/
def cntK (k0 k1 k2 : Int) (i : Nat) : Int := (if 0 < i ∧ 0 < k0 then 1 else 0) + (if 1 < i ∧ 0 < k1 then 1 else 0) + (if 2 < i ∧ 0 < k2 then 1 else 0)
theorem cnt_ops (o : Nat) (h1 : 1 ≤ o) (h2 : o ≤ 15) : cntK (C2.kindOf (o : Int) 0) (C2.kindOf (o : Int) 1) (C2.kindOf (o : Int) 2) 3 = opsOf o := by
  have : ∀ o : Nat, o < 16 → 1 ≤ o → cntK (C2.kindOf (o : Int) 0) (C2.kindOf (o : Int) 1) (C2.kindOf (o : Int) 2) 3 = opsOf o := by decide
  exact this o (by omega) h1
theorem cnt_bd (k0 k1 k2 : Int) (i : Nat) : 0 ≤ cntK k0 k1 k2 i ∧ cntK k0 k1 k2 i ≤ 3 := by
  unfold cntK
  split <;> split <;> split <;> omega
def kAt (k0 k1 k2 : Int) (i : Nat) : Int := if i = 0 then k0 else if i = 1 then k1 else k2
theorem cnt_step (k0 k1 k2 : Int) (i : Nat) (h : i < 3) : cntK k0 k1 k2 (i + 1) = cntK k0 k1 k2 i + if 0 < kAt k0 k1 k2 i then 1 else 0 := by
  unfold cntK kAt
  rcases (by omega : i = 0 ∨ i = 1 ∨ i = 2) with rfl | rfl | rfl <;> simp
set_option maxRecDepth 4000 in
theorem many_any (o : Nat) (h1 : 1 ≤ o) (h2 : o ≤ 15) (w : World) : Calls Tryd.prog 45 #[.int .i64 (o : Int)] w fun e w' => e = .returned (.int .i64 (opsOf o)) ∧ Below w.heap.size w w' := by
  have hk := C2.kinds_any (o : Int) w
  rw [← cnt_ops o h1 h2]
  generalize C2.kindOf (o : Int) 0 = k0 at hk ⊢
  generalize C2.kindOf (o : Int) 1 = k1 at hk ⊢
  generalize C2.kindOf (o : Int) 2 = k2 at hk ⊢
  go_enter Tryd.func45, Tryd.ntmps45
  go_wp2_with fail
  refine hk.mono ?_
  rintro e w1 ⟨rfl, hb⟩
  have hx : (w1.alloc (.cells #[.int .i64 k0, .int .i64 k1, .int .i64 k2] 82)).heap[w1.heap.size]? = some (.cells #[.int .i64 k0, .int .i64 k1, .int .i64 k2] 82 (0, 0)) := heap_alloc_new _ _
  have hb2 := below_alloc hb (.cells #[.int .i64 k0, .int .i64 k1, .int .i64 k2] 82)
  have HB : Hid (Below w.heap.size w (w1.alloc (.cells #[.int .i64 k0, .int .i64 k1, .int .i64 k2] 82))) := hb2
  clear hk hb hb2
  go_wp2_with fail
  generalize hW0 : w1.alloc (.cells #[.int .i64 k0, .int .i64 k1, .int .i64 k2] 82) = W0 at *
  clear hW0
  go_loop [3, 5] (fun nv iv => ∃ i : Nat, i ≤ 3 ∧ iv = .int .i64 i ∧ nv = .int .i64 (cntK k0 k1 k2 i)) (fun _ iv => 3 - (intOf iv).toNat)
  case atStart => exact ⟨0, by omega, rfl, by simp [cntK]⟩
  case round =>
    obtain ⟨i, hi, rfl, rfl⟩ := hrel
    have hbd := cnt_bd k0 k1 k2 i
    by_cases hlt : i < 3
    · have hc : W0.cell? ⟨w1.heap.size, i, none⟩ = some (.int .i64 (kAt k0 k1 k2 i)) := by
        rw [cell_of_row W0 _ i _ _ _ hx]
        rcases (by omega : i = 0 ∨ i = 1 ∨ i = 2) with rfl | rfl | rfl <;> rfl
      have hst := cnt_step k0 k1 k2 i hlt
      generalize kAt k0 k1 k2 i = kk at hc hst
      have hg := block_lt_of_cell hc
      by_cases hp : 0 < kk
      · have hd : decide (0 < kk) = true := by simpa using hp
        rw [if_pos hp] at hst
        have HST : Hid (cntK k0 k1 k2 (i + 1) = cntK k0 k1 k2 i + 1) := hst
        clear hst hx
        generalize cntK k0 k1 k2 i = cc at *
        go_wp2_with fail
        go_round
        case rel => exact ⟨i + 1, by omega, by go_num, by rw [HST.out]⟩
        case measure => simp [intOf]; omega
      · have hd : decide (0 < kk) = false := by simpa using hp
        rw [if_neg hp] at hst
        have HST : Hid (cntK k0 k1 k2 (i + 1) = cntK k0 k1 k2 i + 0) := hst
        clear hst hx
        generalize cntK k0 k1 k2 i = cc at *
        go_wp2_with fail
        go_round
        case rel => exact ⟨i + 1, by omega, by go_num, by rw [HST.out, Int.add_zero]⟩
        case measure => simp [intOf]; omega
    · obtain rfl : i = 3 := by omega
      go_wp2_with fail
      go_ret
      exact ⟨rfl, HB.out⟩
end Go.Proofs.YtnhogbgnnnniaaaDoor
namespace Go.Proofs.YtnhogbgnnnniaaaDoor
open Go.RowKit L3
open C2 (In Pr shapeI SlF SlI InsAt putE putT)

def namesV : Array Value := ((List.range 16).map fun k => Value.string (strB (wordOf k))).toArray
theorem names_lit : namesV = #[.string ⟨#[]⟩, .string ⟨#[99, 111, 110, 115, 116]⟩, .string ⟨#[97, 100, 100]⟩, .string ⟨#[115, 117, 98]⟩, .string ⟨#[109, 117, 108]⟩, .string ⟨#[100, 105, 118]⟩, .string ⟨#[108, 101, 115, 115]⟩, .string ⟨#[106, 117, 109, 112]⟩, .string ⟨#[122, 101, 114, 111]⟩, .string ⟨#[102, 111, 114, 107]⟩, .string ⟨#[106, 111, 105, 110]⟩, .string ⟨#[115, 101, 116]⟩, .string ⟨#[103, 101, 116]⟩, .string ⟨#[99, 97, 110, 99, 101, 108]⟩, .string ⟨#[121, 105, 101, 108, 100]⟩, .string ⟨#[114, 101, 116]⟩] := by rfl
theorem names_at (k : Nat) (h : k < 16) : namesV[k]? = some (.string (strB (wordOf k))) := by
  have : ∀ k, k < 16 → namesV[k]? = some (.string (strB (wordOf k))) := fun k hk => by simp [namesV, hk]
  exact this k h
set_option maxRecDepth 4000 in
theorem names_any (w : World) : Calls Tryd.prog 44 #[] w fun e w' => e = .returned (.agg namesV) ∧ Below w.heap.size w w' := by
  rw [names_lit]
  have hb := below_one w
  go_enter Tryd.func44, Tryd.ntmps44
  go_wp2_with fail
  exact bodyPost_ret (v := .agg #[.string ⟨#[]⟩, .string ⟨#[99, 111, 110, 115, 116]⟩, .string ⟨#[97, 100, 100]⟩, .string ⟨#[115, 117, 98]⟩, .string ⟨#[109, 117, 108]⟩, .string ⟨#[100, 105, 118]⟩, .string ⟨#[108, 101, 115, 115]⟩, .string ⟨#[106, 117, 109, 112]⟩, .string ⟨#[122, 101, 114, 111]⟩, .string ⟨#[102, 111, 114, 107]⟩, .string ⟨#[106, 111, 105, 110]⟩, .string ⟨#[115, 101, 116]⟩, .string ⟨#[103, 101, 116]⟩, .string ⟨#[99, 97, 110, 99, 101, 108]⟩, .string ⟨#[121, 105, 101, 108, 100]⟩, .string ⟨#[114, 101, 116]⟩]) (by simp [results, Tryd.results44, go_sem]) rfl ⟨rfl, hb _⟩

/-! plain: the text under way -/
def hd3 (p : Pr) : List UInt8 := textL [hdL [] 16 p.futs, hdL [] 17 p.depth, hdL [] 18 p.fuel]
def RT (p : Pr) (i : Nat) : List UInt8 := hd3 p ++ textL (funsL [] (p.fs.take i))
def QT (p : Pr) (i : Nat) (f : List In) (k : Nat) : List UInt8 := RT p i ++ (wordOf 19 ++ [10]) ++ textL ((f.take k).map (insL []))
def UT (q : List UInt8) (x : In) (j : Nat) : List UInt8 := q ++ [32, 32] ++ wordOf x.o.toNat ++ opsB [32] ([x.a, x.b, x.c].take j)
def abc (x : In) (j : Nat) : Int := if j = 0 then x.a else if j = 1 then x.b else x.c
theorem RT_done (p : Pr) : RT p p.fs.length = textP p := by
  unfold RT textP hd3 progL
  rw [List.take_length, textL_app]
theorem RT_zero (p : Pr) : RT p 0 = hd3 p := by simp [RT, funsL, textL]
theorem RT_step (p : Pr) (i : Nat) (h : i < p.fs.length) : QT p i p.fs[i] p.fs[i].length = RT p (i + 1) := by
  unfold QT RT
  rw [List.take_length, List.take_succ_eq_append_getElem h]
  have e : ∀ A f, funsL [] (A ++ [f]) = funsL [] A ++ (fnX [] :: f.map (insL [])) := fun A f => by simp [funsL, funL]
  rw [e, textL_app]
  have e2 : textL (fnX [] :: p.fs[i].map (insL [])) = (wordOf 19 ++ [10]) ++ textL (p.fs[i].map (insL [])) := by simp [textL, fnX, wl, lnB, opsB]
  rw [e2]
  simp
theorem QT_zero (p : Pr) (i : Nat) (f : List In) : QT p i f 0 = RT p i ++ (wordOf 19 ++ [10]) := by simp [QT, textL]
theorem UT_step (q : List UInt8) (x : In) (j : Nat) (h : j < 3) : UT q x (j + 1) = UT q x j ++ (if 0 < j then [44] else []) ++ [32] ++ decB (abc x j) := by
  unfold UT abc
  rcases (by omega : j = 0 ∨ j = 1 ∨ j = 2) with rfl | rfl | rfl <;> simp [opsB, moreB]
theorem UT_zero (q : List UInt8) (x : In) : UT q x 0 = q ++ [32, 32] ++ wordOf x.o.toNat := by simp [UT, opsB]
theorem QT_step (p : Pr) (i : Nat) (f : List In) (k : Nat) (h : k < f.length) : UT (QT p i f k) f[k] (opsOf f[k].o.toNat).toNat ++ [10] = QT p i f (k + 1) := by
  unfold QT UT
  rw [List.take_succ_eq_append_getElem h]
  have e : ∀ A x, textL ((A ++ [x]).map (insL [])) = textL (A.map (insL [])) ++ (insL [] x).x := fun A x => by simp [textL]
  rw [e]
  simp [insL, wl, lnB, spx, xsOf]
theorem hd3_eq (p : Pr) : hd3 p = [102, 117, 116, 117, 114, 101, 115, 32] ++ decB p.futs ++ [10, 100, 101, 112, 116, 104, 32] ++ decB p.depth ++ [10, 102, 117, 101, 108, 32] ++ decB p.fuel ++ [10] := by
  simp [hd3, textL, hdL, wl, lnB, opsB, moreB, spx, wordOf, formsT]
theorem take_len_le (p : Pr) (hg : C2.Good p) (i : Nat) : (RT p i).length ≤ 100 + 2870 * i := by
  have h3 : (hd3 p).length ≤ 100 := by
    have h := textL_len [hdL [] 16 p.futs, hdL [] 17 p.depth, hdL [] 18 p.fuel] 33 fun s hs => by
      have hf := hg.futs
      have hd := hg.depth
      have hu := hg.fuel
      simp at hs
      rcases hs with rfl | rfl | rfl
      · have := hdL_len (ex := []) (by simp) (k := 16) (by omega) (v := p.futs) (by unfold inR; omega); omega
      · have := hdL_len (ex := []) (by simp) (k := 17) (by omega) (v := p.depth) (by unfold inR; omega); omega
      · have := hdL_len (ex := []) (by simp) (k := 18) (by omega) (v := p.fuel) (by unfold inR; omega); omega
    simp at h
    unfold hd3
    omega
  have key : ∀ (fs : List (List In)), (∀ f ∈ fs, f ∈ p.fs) → (textL (funsL [] fs)).length ≤ 2870 * fs.length := by
    intro fs
    induction fs with
    | nil => intro _; simp [funsL, textL]
    | cons f r ih =>
      intro h
      have ih := ih fun g hg => h g (by simp [hg])
      have e : funsL [] (f :: r) = funL [] f ++ funsL [] r := rfl
      rw [e, textL_app, List.length_append, List.length_cons]
      have hf := h f (by simp)
      have h1 := textL_len (funL [] f) 70 fun s hs => prog_line_len (ex := []) (by simp) hg s (by
        unfold progL funsL
        rw [List.mem_append]
        exact .inr (List.mem_flatten.2 ⟨_, List.mem_map.2 ⟨f, hf, rfl⟩, hs⟩))
      have h2 := hg.small f hf
      simp [funL] at h1 ⊢
      omega
  have h4 := key (p.fs.take i) fun f hf => List.mem_of_mem_take hf
  have h5 : (p.fs.take i).length ≤ i := by rw [List.length_take]; omega
  unfold RT
  rw [List.length_append]
  have h6 : 2870 * (p.fs.take i).length ≤ 2870 * i := Nat.mul_le_mul_left _ h5
  omega
theorem RT_len (p : Pr) (hg : C2.Good p) (i : Nat) (h : i ≤ p.fs.length) : (RT p i).length ≤ 40000 := by
  have h1 := take_len_le p hg i
  have h2 := hg.few
  omega
theorem QT_len (p : Pr) (hg : C2.Good p) (i : Nat) (h : i < p.fs.length) (k : Nat) : (QT p i p.fs[i] k).length ≤ 50000 := by
  have h1 := RT_len p hg i (by omega)
  have hf := List.getElem_mem h
  have h2 := textL_len ((p.fs[i].take k).map (insL [])) 70 fun s hs => by
    obtain ⟨x, hx, rfl⟩ := List.mem_map.1 hs
    exact insL_len (ex := []) (by simp) (List.all_eq_true.1 (hg.shapes _ hf) x (List.mem_of_mem_take hx))
  have h3 := hg.small _ hf
  have h4 : (p.fs[i].take k).length ≤ p.fs[i].length := by rw [List.length_take]; omega
  rw [List.length_map] at h2
  have h5 := word_len 19 (by omega)
  unfold QT
  simp only [List.length_append, List.length_cons, List.length_nil]
  omega
theorem UT_len (q : List UInt8) (x : In) (hs : shapeI x = true) (j : Nat) : (UT q x j).length ≤ q.length + 60 := by
  have h1 := shp hs
  have h2 := h1.hi
  have h3 := word_len x.o.toNat (by omega)
  have h4 := ops_len [] ([x.a, x.b, x.c].take j) fun y hy => by
    have := List.mem_of_mem_take hy
    simp at this
    rcases this with rfl | rfl | rfl
    · exact h1.a
    · exact h1.b
    · exact h1.c
  have h5 : ([x.a, x.b, x.c].take j).length ≤ 3 := by rw [List.length_take]; simp; omega
  have h6 : (14 + ([] : List UInt8).length) * ([x.a, x.b, x.c].take j).length ≤ 14 * 3 := Nat.mul_le_mul (by simp) h5
  unfold UT
  simp only [List.length_append, List.length_cons, List.length_nil, spx] at h4 ⊢
  omega
theorem abc_in {x : In} (h : shapeI x = true) (j : Nat) : inR (abc x j) := by
  have h1 := shp h
  unfold abc
  split
  · exact h1.a
  · split
    · exact h1.b
    · exact h1.c
/-- what Text answers -/
def txtF (p : Pr) : List UInt8 := if putE p = 0 then textP p else []
end Go.Proofs.YtnhogbgnnnniaaaDoor
namespace Go.Proofs.YtnhogbgnnnniaaaDoor
open Go.RowKit L3
open C2 (In Pr bigB shapeI inB)

def cell4 (i : In) : Array Value := #[.int .i64 i.o, .int .i64 i.a, .int .i64 i.b, .int .i64 i.c]
/-- what ins has beside the reader -/
structure IL (r : Nat) (w wr : World) (N : Nat) (m : Int) : Prop where
  res : wr.heap[w.heap.size]? = some (.cells #[.int .i64 0, .int .i64 0, .int .i64 0, .int .i64 0] 42 (0, 0))
  x : wr.heap[w.heap.size + 1]? = some (.cells #[.int .i64 m, .int .i64 0, .int .i64 0, .int .i64 0] 42 (0, 0))
  nm : wr.heap[N]? = some (.cells namesV 80 (0, 0))
  hi : w.heap.size + 1 < N
  ow : Ow r w wr
theorem PAt.move {w0 w w' : World} {r : Nat} {ta : Option Addr} {tc : Nat} {T : List Tk} {o : Option (List Tk)} {off : Int} (h : PAt w0 w r ta tc T o off) (hb : Below w0.heap.size w w') (hr : w'.heap[r]? = w.heap[r]?) : PAt w0 w' r ta tc T o off := by
  obtain ⟨I, bad, h1, h2, h3⟩ := h.box
  exact ⟨h.far, h.low.trans hb, h.toks, I, bad, hr.trans h1, h2, h3⟩
section
variable {w0 w wr w' : World} {r N : Nat} {m : Int} {ta : Option Addr} {tc : Nat} {T : List Tk} {o : Option (List Tk)} {off : Int}
theorem IL.kept (h : IL r w wr N m) (hb : Below wr.heap.size wr w') : IL r w w' N m :=
  ⟨(hb.block _ (lt_of_block h.res)).trans h.res, (hb.block _ (lt_of_block h.x)).trans h.x, (hb.block _ (lt_of_block h.nm)).trans h.nm, h.hi, h.ow.trans (Ow.of_below hb)⟩
theorem IL.ows (h : IL r w wr N m) (hb : Ow r wr w') (hr : r < w.heap.size) : IL r w w' N m :=
  ⟨(hb.block _ (lt_of_block h.res) (by omega)).trans h.res, (hb.block _ (lt_of_block h.x) (by omega)).trans h.x, (hb.block _ (lt_of_block h.nm) (by have := h.hi; omega)).trans h.nm, h.hi, h.ow.trans hb⟩
theorem Ow.setHi (h : Ow r w wr) {b f : Nat} (hb : w.heap.size ≤ b) (v : Value) : Ow r w (wr.setCell ⟨b, f, none⟩ v) :=
  ⟨h.os, h.tape, h.output, by have := h.size; simpa [World.setCell] using this, fun k hk hr => (Below.heap_setCell _ _ _ _ (by show k ≠ b; omega)).trans (h.block k hk hr)⟩
theorem Ow.alloc (h : Ow r w wr) (o : Obj) : Ow r w (wr.alloc o) :=
  ⟨h.os, h.tape, h.output, by have := h.size; simp; omega, fun k hk hr => (Below.heap_alloc _ _ _ (by have := h.size; omega)).trans (h.block k hk hr)⟩
theorem PAt.setHi (h : PAt w0 wr r ta tc T o off) {b f : Nat} (hb : r < b) (v : Value) : PAt w0 (wr.setCell ⟨b, f, none⟩ v) r ta tc T o off :=
  h.move ((Below.refl _ _).setCell (p := ⟨b, f, none⟩) (by have := h.far; show w0.heap.size ≤ b; omega) v) (Below.heap_setCell _ _ _ _ (by show r ≠ b; omega))
theorem IL.setOp (h : IL r w wr N m) (k : Int) : IL r w (wr.setCell ⟨w.heap.size + 1, 0, none⟩ (.int .i64 k)) N k := by
  have hN := h.hi
  refine ⟨(Below.heap_setCell _ _ _ _ (by simp)).trans h.res, ?_, (Below.heap_setCell _ _ _ _ (by simp; omega)).trans h.nm, h.hi, h.ow.setHi (by omega) _⟩
  rw [heap_setCell_same _ _ _ _ _ _ h.x]
  simp
end
def InPost (w0 : World) (r : Nat) (ta : Option Addr) (tc : Nat) (T : List Tk) (o : Option (List Tk)) (off : Int) (i : In) (w : World) (e : Ending) (w' : World) : Prop := e = .returned (.agg #[.int .i64 i.o, .int .i64 i.a, .int .i64 i.b, .int .i64 i.c]) ∧ PAt w0 w' r ta tc T o off ∧ Ow r w w'
def V3 (xs : List Int) : Array Value := #[.int .i64 (xs.getD 0 0), .int .i64 (xs.getD 1 0), .int .i64 (xs.getD 2 0)]
theorem V3_set {xs : List Int} {k : Nat} (h : xs.length = k) (hk : k < 3) (n : Int) : (V3 xs).setIfInBounds k (.int .i64 n) = V3 (xs ++ [n]) := by
  subst h
  match xs, hk with
  | [], _ => rfl
  | [a], _ => rfl
  | [a, b], _ => rfl
theorem ins_cells {w : World} {r : Nat} {a b c d : Value} (h : w.heap[r]? = some (.cells #[a, b, c, d] 42 (0, 0))) : w.cell? ⟨r, 0, none⟩ = some a ∧ w.cell? ⟨r, 1, none⟩ = some b ∧ w.cell? ⟨r, 2, none⟩ = some c ∧ w.cell? ⟨r, 3, none⟩ = some d :=
  ⟨by simp [cell_of_row _ _ _ _ _ _ h], by simp [cell_of_row _ _ _ _ _ _ h], by simp [cell_of_row _ _ _ _ _ _ h], by simp [cell_of_row _ _ _ _ _ _ h]⟩
def fin7 (w5 : World) (G : Nat) (n y0 y1 y2 : Int) : World := (((((((w5.setCell ⟨G + 1, 1, none⟩ (.int .i64 y0)).setCell ⟨G + 1, 2, none⟩ (.int .i64 y1)).setCell ⟨G + 1, 3, none⟩ (.int .i64 y2)).setCell ⟨G, 0, none⟩ (.int .i64 n)).setCell ⟨G, 1, none⟩ (.int .i64 y0)).setCell ⟨G, 2, none⟩ (.int .i64 y1)).setCell ⟨G, 3, none⟩ (.int .i64 y2))
theorem fin7_far (w5 : World) {G b : Nat} (h1 : b ≠ G) (h2 : b ≠ G + 1) (n y0 y1 y2 : Int) : (fin7 w5 G n y0 y1 y2).heap[b]? = w5.heap[b]? := by
  unfold fin7
  rw [Below.heap_setCell _ _ _ _ h1, Below.heap_setCell _ _ _ _ h1, Below.heap_setCell _ _ _ _ h1, Below.heap_setCell _ _ _ _ h1, Below.heap_setCell _ _ _ _ h2, Below.heap_setCell _ _ _ _ h2, Below.heap_setCell _ _ _ _ h2]
theorem fin7_below (w5 : World) {B G : Nat} (h : B ≤ G) (n y0 y1 y2 : Int) : Below B w5 (fin7 w5 G n y0 y1 y2) := by
  have h1 : B ≤ G + 1 := Nat.le_succ_of_le h
  exact (((((((Below.refl B w5).setCell (p := ⟨G + 1, 1, none⟩) h1 _).setCell (p := ⟨G + 1, 2, none⟩) h1 _).setCell (p := ⟨G + 1, 3, none⟩) h1 _).setCell (p := ⟨G, 0, none⟩) h _).setCell (p := ⟨G, 1, none⟩) h _).setCell (p := ⟨G, 2, none⟩) h _).setCell (p := ⟨G, 3, none⟩) h _
theorem fin7_ow {r : Nat} {w w5 : World} (h : Ow r w w5) (n y0 y1 y2 : Int) : Ow r w (fin7 w5 w.heap.size n y0 y1 y2) := by
  have h0 : w.heap.size ≤ w.heap.size := Nat.le_refl _
  have h1 : w.heap.size ≤ w.heap.size + 1 := Nat.le_succ _
  exact ((((((h.setHi (b := w.heap.size + 1) (f := 1) h1 _).setHi (b := w.heap.size + 1) (f := 2) h1 _).setHi (b := w.heap.size + 1) (f := 3) h1 _).setHi (b := w.heap.size) (f := 0) h0 _).setHi (b := w.heap.size) (f := 1) h0 _).setHi (b := w.heap.size) (f := 2) h0 _).setHi (b := w.heap.size) (f := 3) h0 _
theorem Ow.drew {r : Nat} {w w5 : World} (h : Ow r w w5) : Ow r w w5.drew := ⟨h.os, h.tape, h.output, h.size, h.block⟩
set_option maxRecDepth 4000 in
set_option maxHeartbeats 4000000 in
theorem insR_any {w0 w : World} {r : Nat} {ta : Option Addr} {tc : Nat} {T : List Tk} {o : Option (List Tk)} {off : Int} (h : PAt w0 w r ta tc T o off) (hn : T.length ≤ 20000) :
    Calls Tryd.prog 35 #[.pointer (some ⟨r, 0, none⟩)] w fun e w' => InPost w0 r ta tc T (insO o) off (insVR o) w e w' := by
  have hrw := h.lt
  have hfar := h.far
  have HE : Hid (∀ w' o, PAt w0 w' r ta tc T o off → Calls Tryd.prog 34 #[.pointer (some ⟨r, 0, none⟩), .int .i64 4, .string ⟨#[]⟩] w' fun e w'' => StPost w0 r ta tc T (mustO 4 [] o) off (.tuple #[]) w' e w'') := fun w' o h => must_any h hn 4 [] ⟨#[]⟩ rfl
  have HC : Hid (∀ w' o, PAt w0 w' r ta tc T o off → Calls Tryd.prog 34 #[.pointer (some ⟨r, 0, none⟩), .int .i64 3, .string ⟨#[44]⟩] w' fun e w'' => StPost w0 r ta tc T (mustO 3 [44] o) off (.tuple #[]) w' e w'') := fun w' o h => must_any h hn 3 [44] ⟨#[44]⟩ rfl
  have HNM : Hid (∀ w' o, PAt w0 w' r ta tc T o off → Calls Tryd.prog 68 #[.pointer (some ⟨r, 0, none⟩)] w' fun e w'' => StPost w0 r ta tc T (numO o) off (.int .i64 (numV o)) w' e w'') := fun w' o h => numberR_any h hn
  go_enter Tryd.func35, Tryd.ntmps35
  go_wp2_with fail
  refine (names_any _).mono ?_
  rintro e w2 ⟨rfl, hb2⟩
  have hbt := below_then (two_old (w := w) (.cells #[.int .i64 0, .int .i64 0, .int .i64 0, .int .i64 0] 42) (.cells #[.int .i64 0, .int .i64 0, .int .i64 0, .int .i64 0] 42)) hb2
  have hbt2 := C2.below_alloc hbt (.cells namesV 80)
  have hz2 : w.heap.size + 2 ≤ w2.heap.size := by have := hb2.size; simpa using this
  have hIL : IL r w (w2.alloc (.cells namesV 80)) w2.heap.size ((0 : Nat) : Int) :=
    ⟨(Below.heap_alloc _ _ _ (by omega)).trans ((hb2.block _ (by simp; omega)).trans (heap_alloc2_old _ _ _)), (Below.heap_alloc _ _ _ (by omega)).trans ((hb2.block _ (by simp)).trans (heap_alloc2_new _ _ _)), heap_alloc_new _ _, by omega, Ow.of_below hbt2⟩
  have hP := h.kept hbt2
  clear h hb2 hbt hbt2
  rw [names_lit]
  go_wp2_with fail
  rw [← names_lit]
  generalize hW0 : w2.alloc (.cells namesV 80) = W0 at *
  generalize hG0 : w2.heap.size = N at *
  clear hW0 hG0
  go_loopw [5] (fun iv wr => ∃ k : Nat, k ≤ 15 ∧ iv = .int .i64 ((k : Int) + 1) ∧ IL r w wr N (opTo o k : Nat) ∧ PAt w0 wr r ta tc T o off) (fun iv _ => (17 - intOf iv).toNat)
  case atStart => exact ⟨0, by omega, rfl, hIL, hP⟩
  case round =>
    obtain ⟨k, hk, rfl, hI, hP⟩ := hrel
    clear hIL
    by_cases hlt : k < 15
    · obtain ⟨S, hS⟩ : ∃ S, S = strB (wordOf (k + 1)) := ⟨_, rfl⟩
      have his := is_any hP 1 (wordOf (k + 1)) S hS
      have hnm : wr.cell? ⟨N, k + 1, none⟩ = some (.string S) := by rw [cell_of_row _ _ _ _ _ _ hI.nm, names_at _ (by omega), hS]
      have hst : opTo o (k + 1) = if isO 1 (wordOf (k + 1)) o = true then k + 1 else opTo o k := rfl
      obtain ⟨b, hb⟩ : ∃ b, isO 1 (wordOf (k + 1)) o = b := ⟨_, rfl⟩
      rw [hb] at his hst
      clear hS hb
      go_wp2_with fail
      refine his.mono ?_
      rintro e w3 ⟨rfl, hb3⟩
      have hI3 := hI.kept hb3
      have hP3 := hP.kept hb3
      clear his
      cases b with
      | true =>
        obtain ⟨x0, x1, x2, x3⟩ := ins_cells hI3.x
        have f0 := frozen_of_row _ _ 0 _ _ hI3.x
        have hI4 := hI3.setOp ((k + 1 : Nat) : Int)
        have hP4 := hP3.setHi (b := w.heap.size + 1) (f := 0) (by omega) (.int .i64 ((k + 1 : Nat) : Int))
        rw [if_pos rfl] at hst
        have HR : Hid (IL r w (w3.setCell ⟨w.heap.size + 1, 0, none⟩ (.int .i64 ((k : Int) + 1))) N (opTo o (k + 1) : Nat) ∧ PAt w0 (w3.setCell ⟨w.heap.size + 1, 0, none⟩ (.int .i64 ((k : Int) + 1))) r ta tc T o off) := by rw [hst]; exact ⟨hI4, hP4⟩
        clear hI4 hP4 hst hI3 hP3 hI
        go_wp2_with fail
        go_roundw
        case rel => exact ⟨k + 1, by omega, by go_num, HR.out.1, HR.out.2⟩
        case measure => simp [intOf]; omega
      | false =>
        rw [if_neg (by simp)] at hst
        have HR : Hid (IL r w w3 N (opTo o (k + 1) : Nat) ∧ PAt w0 w3 r ta tc T o off) := by rw [hst]; exact ⟨hI3, hP3⟩
        clear hst hI3 hP3 hI
        go_wp2_with fail
        go_roundw
        case rel => exact ⟨k + 1, by omega, by go_num, HR.out.1, HR.out.2⟩
        case measure => simp [intOf]; omega
    · obtain rfl : k = 15 := by omega
      rw [show (((15 : Nat) : Int) + 1) = 16 from rfl]
      have hle := insN_le o
      have HV : Hid (insO o = if insN o = 0 then none else mustO 4 [] (opsO (o.map List.tail) (opsOf (insN o)).toNat)) := rfl
      have HW : Hid (insVR o = if insN o = 0 then ⟨0, 0, 0, 0⟩ else insOf (insN o) (opsV (o.map List.tail) (opsOf (insN o)).toNat)) := rfl
      have hsome : insN o ≠ 0 → ∃ t R, o = some (t :: R) := fun hne => by
        cases o with
        | none => exact absurd (opTo_none 15) hne
        | some l => cases l with
          | nil => exact absurd (opTo_nil 15) hne
          | cons t R => exact ⟨t, R, rfl⟩
      rw [show opTo o 15 = insN o from rfl] at hI
      obtain ⟨n, hnn⟩ : ∃ n, insN o = n := ⟨_, rfl⟩
      rw [hnn] at hI HV HW hle hsome
      clear hnn
      obtain ⟨x0, x1, x2, x3⟩ := ins_cells hI.x
      by_cases h0 : n = 0
      · subst h0
        have x0' : wr.cell? ⟨w.heap.size + 1, 0, none⟩ = some (.int .i64 0) := x0
        clear x0
        obtain ⟨I, bad, hbox, hII, ho⟩ := hP.box
        obtain ⟨c0, c1, c2, c3⟩ := p_cells hbox
        have f2 := frozen_of_row _ _ 2 _ _ hbox
        obtain ⟨hPa, hOa⟩ := p_set hP 2 (.bool true) (bad := true) hbox rfl hII
        obtain ⟨y0, y1, y2, y3⟩ := ins_cells hI.res
        have g0 := frozen_of_row _ _ 0 _ _ hI.res
        have g1 := frozen_of_row _ _ 1 _ _ hI.res
        have g2 := frozen_of_row _ _ 2 _ _ hI.res
        have g3 := frozen_of_row _ _ 3 _ _ hI.res
        have HR : Hid (InPost w0 r ta tc T (insO o) off (insVR o) w (.returned (.agg #[.int .i64 0, .int .i64 0, .int .i64 0, .int .i64 0])) (((((wr.setCell ⟨r, 2, none⟩ (.bool true)).setCell ⟨w.heap.size, 0, none⟩ (.int .i64 0)).setCell ⟨w.heap.size, 1, none⟩ (.int .i64 0)).setCell ⟨w.heap.size, 2, none⟩ (.int .i64 0)).setCell ⟨w.heap.size, 3, none⟩ (.int .i64 0))) := by
          show InPost _ _ _ _ _ _ _ _ _ _ _
          rw [HV.out, HW.out, if_pos rfl, if_pos rfl]
          exact ⟨rfl, (((hPa.setHi hrw _).setHi hrw _).setHi hrw _).setHi hrw _, ((((hI.ow.trans hOa).setHi (Nat.le_refl _) _).setHi (Nat.le_refl _) _).setHi (Nat.le_refl _) _).setHi (Nat.le_refl _) _⟩
        have hrn : r ≠ w.heap.size := by omega
        have hrn1 : r ≠ w.heap.size + 1 := by omega
        clear hPa hOa hbox ho HV HW hsome hP hI
        go_wp2_with fail
        exact bodyPost_ret (v := .agg #[.int .i64 0, .int .i64 0, .int .i64 0, .int .i64 0]) (by simp [results, Tryd.results35, go_sem, y0, y1, y2, y3]) rfl HR.out
      · have e0 : ((n : Int) == 0) = false := by simp; omega
        obtain ⟨t, R, rfl⟩ := hsome h0
        have HV2 : Hid (insO (some (t :: R)) = mustO 4 [] (opsO (some R) (opsOf n).toNat)) := by show _ = _; rw [HV.out, if_neg h0]; rfl
        have HW2 : Hid (insVR (some (t :: R)) = insOf n (opsV (some R) (opsOf n).toNat)) := by show _ = _; rw [HW.out, if_neg h0]; rfl
        have hob := opsOf_bd n
        obtain ⟨m, hm⟩ : ∃ m : Nat, opsOf n = m := ⟨(opsOf n).toNat, by omega⟩
        have HMY : Hid (∀ w', Calls Tryd.prog 45 #[.int .i64 (n : Int)] w' fun e w'' => e = .returned (.int .i64 (m : Int)) ∧ Below w'.heap.size w' w'') := fun w' => by have := many_any n (by omega) hle w'; rw [hm] at this; exact this
        rw [hm] at HV2 HW2 hob
        simp only [Int.toNat_natCast] at HV2 HW2
        clear hm HV HW hsome
        obtain ⟨I, bad, hbox, hII, ho⟩ := hP.box
        have hbad : bad = false := by
          cases bad with
          | true => simp at ho
          | false => rfl
        subst hbad
        have hd : t :: R = T.drop I := by simpa using ho
        have hltI : I < T.length := by
          by_cases hh : I < T.length
          · exact hh
          · rw [List.drop_eq_nil_of_le (by omega)] at hd; simp at hd
        obtain ⟨c0, c1, c2, c3⟩ := p_cells hbox
        have f1 := frozen_of_row _ _ 1 _ _ hbox
        obtain ⟨hPa, hOa⟩ := p_set hP 1 (.int .i64 ((I : Int) + 1)) (I := I + 1) (bad := false) (off' := off) hbox (by simp) (by omega)
        rw [List.drop_eq_getElem_cons hltI] at hd
        have hR : R = T.drop (I + 1) := (List.cons.inj hd).2
        rw [if_neg (by simp), ← hR] at hPa
        have hIa := (hI.ows hOa hrw).kept (below_one (wr.setCell ⟨r, 1, none⟩ (.int .i64 ((I : Int) + 1))) (.cells #[.int .i64 0, .int .i64 0, .int .i64 0] 82))
        have hPb := hPa.kept (below_one (wr.setCell ⟨r, 1, none⟩ (.int .i64 ((I : Int) + 1))) (.cells #[.int .i64 0, .int .i64 0, .int .i64 0] 82))
        have hVb : ((wr.setCell ⟨r, 1, none⟩ (.int .i64 ((I : Int) + 1))).alloc (.cells #[.int .i64 0, .int .i64 0, .int .i64 0] 82)).heap[wr.heap.size]? = some (.cells #[.int .i64 0, .int .i64 0, .int .i64 0] 82 (0, 0)) := by
          have hh : (wr.setCell ⟨r, 1, none⟩ (.int .i64 ((I : Int) + 1))).heap.size = wr.heap.size := by simp [World.setCell]
          rw [← hh]
          exact heap_alloc_new _ _
        have hNV := lt_of_block hI.nm
        have hNV2 := hI.hi
        clear hPa hOa hbox ho hP hI hd hR
        go_wp2_with fail
        generalize hV0 : wr.heap.size = V at *
        generalize hW1 : (wr.setCell ⟨r, 1, none⟩ (.int .i64 ((I : Int) + 1))).alloc (.cells #[.int .i64 0, .int .i64 0, .int .i64 0] 82) = W1 at *
        clear hV0 hW1
        clear x0 x1 x2 x3 c0 c1 c2 c3 f1
        go_loopw [7] (fun kv wr => ∃ k : Nat, k ≤ m ∧ kv = .int .i64 k ∧ IL r w wr N (n : Int) ∧ PAt w0 wr r ta tc T (opsO (some R) k) off ∧ wr.heap[V]? = some (.cells (V3 (opsV (some R) k)) 82 (0, 0))) (fun kv _ => m - (intOf kv).toNat)
        case atStart => exact ⟨0, by omega, rfl, hIa, hPb, hVb⟩
        case round =>
          obtain ⟨k, hk, rfl, hI, hP, hV⟩ := hrel
          clear hIa hPb hVb
          have hx0 := (ins_cells hI.x).1
          by_cases hkm : k < m
          · have hnx : opsO (some R) (k + 1) = numO (preO k (opsO (some R) k)) := rfl
            have hnv : opsV (some R) (k + 1) = opsV (some R) k ++ [numV (preO k (opsO (some R) k))] := rfl
            have hlv := opsV_length (some R) k
            obtain ⟨q, hq⟩ : ∃ q, opsO (some R) k = q := ⟨_, rfl⟩
            obtain ⟨xs, hxs⟩ : ∃ xs, opsV (some R) k = xs := ⟨_, rfl⟩
            rw [hq] at hP hnx hnv
            rw [hxs] at hV hnv hlv
            have HEND : Hid (∀ w', IL r w w' N (n : Int) → PAt w0 w' r ta tc T (numO (preO k q)) off → w'.heap[V]? = some (.cells (V3 xs) 82 (0, 0)) → IL r w (w'.setCell ⟨V, k, none⟩ (.int .i64 (numV (preO k q)))) N (n : Int) ∧ PAt w0 (w'.setCell ⟨V, k, none⟩ (.int .i64 (numV (preO k q)))) r ta tc T (opsO (some R) (k + 1)) off ∧ (w'.setCell ⟨V, k, none⟩ (.int .i64 (numV (preO k q)))).heap[V]? = some (.cells (V3 (opsV (some R) (k + 1))) 82 (0, 0))) := fun w' hI' hP' hV' => by
              refine ⟨⟨(Below.heap_setCell _ _ _ _ (by show w.heap.size ≠ V; omega)).trans hI'.res, (Below.heap_setCell _ _ _ _ (by show w.heap.size + 1 ≠ V; omega)).trans hI'.x, (Below.heap_setCell _ _ _ _ (by show N ≠ V; omega)).trans hI'.nm, hI'.hi, hI'.ow.setHi (by omega) _⟩, by rw [hnx]; exact hP'.setHi (by omega) _, ?_⟩
              rw [heap_setCell_same _ _ _ _ _ _ hV', V3_set hlv (by omega), hnv]
            have HSZ : Hid ((V3 xs).size = 3) := rfl
            clear hnx hnv hq hxs
            go_wp2_with fail
            refine (HMY.out _).mono ?_
            rintro e w4 ⟨rfl, hb4⟩
            have hI4 := hI.kept hb4
            have hP4 := hP.kept hb4
            have hV4 := (hb4.block _ (lt_of_block hV)).trans hV
            clear hI hP hV hx0
            by_cases hk0 : k = 0
            · subst hk0
              go_wp2_with fail
              refine (HNM.out _ _ hP4).mono ?_
              rintro e w5 ⟨rfl, hP5, hO5⟩
              have hI5 := hI4.ows hO5 hrw
              have hV5 := (hO5.block _ (lt_of_block hV4) (by omega)).trans hV4
              obtain ⟨hA, hB, hC⟩ := HEND.out w5 hI5 hP5 hV5
              have HR : Hid (_ ∧ _ ∧ _) := ⟨hA, hB, hC⟩
              have v0 : w5.cell? ⟨V, 0, none⟩ = some (.int .i64 (xs.getD 0 0)) := by rw [cell_of_row _ _ _ _ _ _ hV5]; rfl
              have g0 := frozen_of_row _ _ 0 _ _ hV5
              have e1 : numV (preO 0 q) = numV q := rfl
              rw [e1] at HR
              clear hA hB hC hI4 hP4 hV4 hI5 hP5 hV5 HEND
              go_wp2_with fail
              go_roundw
              case rel => exact ⟨1, by omega, by go_num, HR.out.1, HR.out.2.1, HR.out.2.2⟩
              case measure => simp [intOf]; omega
            · have hd0 : decide ((0 : Int) < (k : Int)) = true := by simp; omega
              have epre : preO k q = mustO 3 [44] q := if_neg hk0
              rw [epre] at HEND
              go_wp2_with fail
              refine (HC.out _ _ hP4).mono ?_
              rintro e w5 ⟨rfl, hP5, hO5⟩
              have hI5 := hI4.ows hO5 hrw
              have hV5 := (hO5.block _ (lt_of_block hV4) (by omega)).trans hV4
              clear hI4 hP4 hV4 hO5
              go_wp2_with fail
              refine (HNM.out _ _ hP5).mono ?_
              rintro e w6 ⟨rfl, hP6, hO6⟩
              have hI6 := hI5.ows hO6 hrw
              have hV6 := (hO6.block _ (lt_of_block hV5) (by omega)).trans hV5
              obtain ⟨hA, hB, hC⟩ := HEND.out w6 hI6 hP6 hV6
              have HR : Hid (_ ∧ _ ∧ _) := ⟨hA, hB, hC⟩
              have v0 : ∃ u, w6.cell? ⟨V, k, none⟩ = some (.int .i64 u) := by
                rw [cell_of_row _ _ _ _ _ _ hV6]
                rcases (by omega : k = 0 ∨ k = 1 ∨ k = 2) with rfl | rfl | rfl
                · exact ⟨_, rfl⟩
                · exact ⟨_, rfl⟩
                · exact ⟨_, rfl⟩
              obtain ⟨u, v0⟩ := v0
              have g0 := frozen_of_row _ _ k _ _ hV6
              have hk3 : k < 3 := by omega
              clear hA hB hC hI5 hP5 hV5 hI6 hP6 hV6 HEND epre
              go_wp2_with fail
              go_roundw
              case rel => exact ⟨k + 1, by omega, by go_num, HR.out.1, HR.out.2.1, HR.out.2.2⟩
              case measure => simp [intOf]; omega
          · obtain rfl : k = m := by omega
            clear HC HNM
            go_wp2_with fail
            refine (HMY.out _).mono ?_
            rintro e w4 ⟨rfl, hb4⟩
            have hI4 := hI.kept hb4
            have hP4 := hP.kept hb4
            have hV4 := (hb4.block _ (lt_of_block hV)).trans hV
            clear hI hP hV hx0 HMY
            go_wp2_with fail
            refine (HE.out _ _ hP4).mono ?_
            rintro e w5 ⟨rfl, hP5, hO5⟩
            have hI5 := hI4.ows hO5 hrw
            have hV5 := (hO5.block _ (lt_of_block hV4) (by omega)).trans hV4
            clear hI4 hP4 hV4 HE
            obtain ⟨xs, hxs⟩ : ∃ xs, opsV (some R) k = xs := ⟨_, rfl⟩
            have hc := HW2.out
            rw [hxs] at hc hV5
            have HRV : Hid (insVR (some (t :: R)) = ⟨n, xs.getD 0 0, xs.getD 1 0, xs.getD 2 0⟩) := hc
            clear hxs hc HW2
            obtain ⟨a0, a1, a2, a3⟩ := ins_cells hI5.x
            have g0 := frozen_of_row _ _ 0 _ _ hI5.x
            have g1 := frozen_of_row _ _ 1 _ _ hI5.x
            have g2 := frozen_of_row _ _ 2 _ _ hI5.x
            have g3 := frozen_of_row _ _ 3 _ _ hI5.x
            have v0 : w5.cell? ⟨V, 0, none⟩ = some (.int .i64 (xs.getD 0 0)) := by rw [cell_of_row _ _ _ _ _ _ hV5]; rfl
            have v1 : w5.cell? ⟨V, 1, none⟩ = some (.int .i64 (xs.getD 1 0)) := by rw [cell_of_row _ _ _ _ _ _ hV5]; rfl
            have v2 : w5.cell? ⟨V, 2, none⟩ = some (.int .i64 (xs.getD 2 0)) := by rw [cell_of_row _ _ _ _ _ _ hV5]; rfl
            generalize xs.getD 0 0 = y0 at *
            generalize xs.getD 1 0 = y1 at *
            generalize xs.getD 2 0 = y2 at *
            have hVx : V ≠ w.heap.size + 1 := by omega
            obtain ⟨b0, b1, b2, b3⟩ := ins_cells hI5.res
            have q0 := frozen_of_row _ _ 0 _ _ hI5.res
            have q1 := frozen_of_row _ _ 1 _ _ hI5.res
            have q2 := frozen_of_row _ _ 2 _ _ hI5.res
            have q3 := frozen_of_row _ _ 3 _ _ hI5.res
            have hP6 : ∀ w', Below w0.heap.size w5 w' → w'.heap[r]? = w5.heap[r]? → Ow r w w' → InPost w0 r ta tc T (insO (some (t :: R))) off (insVR (some (t :: R))) w (.returned (.agg #[.int .i64 (n : Int), .int .i64 y0, .int .i64 y1, .int .i64 y2])) w' := fun w' hb hr ho => by
              show InPost _ _ _ _ _ _ _ _ _ _ _
              rw [HV2.out, HRV.out]
              exact ⟨rfl, hP5.move hb hr, ho⟩
            have HP6 : Hid (∀ w', Below w0.heap.size w5 w' → w'.heap[r]? = w5.heap[r]? → Ow r w w' → InPost w0 r ta tc T (insO (some (t :: R))) off (insVR (some (t :: R))) w (.returned (.agg #[.int .i64 (n : Int), .int .i64 y0, .int .i64 y1, .int .i64 y2])) w') := hP6
            have hb7 : Below w.heap.size w5 (fin7 w5 w.heap.size n y0 y1 y2).drew := (fin7_below w5 (Nat.le_refl _) _ _ _ _).drew
            have HP7 : Hid (InPost w0 r ta tc T (insO (some (t :: R))) off (insVR (some (t :: R))) w (.returned (.agg #[.int .i64 (n : Int), .int .i64 y0, .int .i64 y1, .int .i64 y2])) (fin7 w5 w.heap.size n y0 y1 y2).drew) := HP6.out _ (hb7.mono (by omega)) (hb7.block r hrw) (fin7_ow hI5.ow _ _ _ _).drew
            clear hb7
            unfold fin7 at HP7
            clear HP6
            clear hP6 hP5 hI5 HV2 HRV hV5 hO5 hP
            go_wp2_with fail
            go_region
            all_goals
              go_wp2_with fail
              exact bodyPost_ret (v := .agg #[.int .i64 (n : Int), .int .i64 y0, .int .i64 y1, .int .i64 y2]) (by simp [results, Tryd.results35, go_sem, b0, b1, b2, b3]) rfl HP7.out
end Go.Proofs.YtnhogbgnnnniaaaDoor
namespace Go.Proofs.YtnhogbgnnnniaaaDoor
open Go.RowKit L3
open C2 (In Pr bigB shapeI inB putE SlF Tab insC cellsI)

/-- the reference's Parse under way: its answer's block, the program's, the reader -/
structure RW (w w1 wr : World) (ta : Option Addr) (tc : Nat) (T : List Tk) (o : Option (List Tk)) (off : Int) (p : Pr) (fa : Option Addr) (fl fc : Nat) (vals : List Value) : Prop where
  out : wr.heap[w.heap.size]? = some (.cells #[.slice none 0 0, .int .i64 0, .int .i64 0, .int .i64 0] 24 (0, 0))
  box : wr.heap[w1.heap.size + 1]? = some (.cells #[.slice fa fl fc, .int .i64 p.futs, .int .i64 p.depth, .int .i64 p.fuel] 24 (0, 0))
  fns : Fns wr (w1.heap.size + 2) (.slice fa fl fc) p.fs vals
  pat : PAt w1 wr w1.heap.size ta tc T o off
  low : Below w.heap.size w wr
  szs : w.heap.size < w1.heap.size
section
variable {w w1 wr w' : World} {ta : Option Addr} {tc : Nat} {T : List Tk} {o o' : Option (List Tk)} {off off' : Int} {p : Pr} {fa : Option Addr} {fl fc : Nat} {vals : List Value}
theorem RW.step (h : RW w w1 wr ta tc T o off p fa fl fc vals) (hp : PAt w1 w' w1.heap.size ta tc T o' off') (ho : Ow w1.heap.size wr w') : RW w w1 w' ta tc T o' off' p fa fl fc vals :=
  ⟨(ho.block _ (lt_of_block h.out) (by have := h.szs; omega)).trans h.out, (ho.block _ (lt_of_block h.box) (by omega)).trans h.box, h.fns.far fun g h1 h2 => ho.block g h2 (by omega), hp, h.low.trans (ho.below (by have := h.szs; omega) h.low.size), h.szs⟩
theorem RW.kept (h : RW w w1 wr ta tc T o off p fa fl fc vals) (hb : Below wr.heap.size wr w') : RW w w1 w' ta tc T o off p fa fl fc vals := h.step (h.pat.kept hb) (Ow.of_below hb)
theorem RW.set (h : RW w w1 wr ta tc T o off p fa fl fc vals) (j : Nat) (x : Int) {p' : Pr} (hf : p'.fs = p.fs) (he : (#[.slice fa fl fc, .int .i64 p.futs, .int .i64 p.depth, .int .i64 p.fuel] : Array Value).setIfInBounds j (.int .i64 x) = #[.slice fa fl fc, .int .i64 p'.futs, .int .i64 p'.depth, .int .i64 p'.fuel]) : RW w w1 (wr.setCell ⟨w1.heap.size + 1, j, none⟩ (.int .i64 x)) ta tc T o off p' fa fl fc vals := by
  have hz := h.szs
  refine ⟨(Below.heap_setCell _ _ _ _ (by show w.heap.size ≠ w1.heap.size + 1; omega)).trans h.out, ?_, ?_, h.pat.setHi (by omega) _, h.low.setCell (p := ⟨w1.heap.size + 1, j, none⟩) (by show w.heap.size ≤ w1.heap.size + 1; omega) _, hz⟩
  · rw [heap_setCell_same _ _ _ _ _ _ h.box, he]
  · rw [hf]
    exact h.fns.far fun g h1 h2 => Below.heap_setCell _ _ _ _ (by show g ≠ w1.heap.size + 1; omega)
end
theorem RW.start {w w1 : World} {ta : Option Addr} {tc : Nat} {T : List Tk} (hS : SlT w1 (.slice ta T.length tc) T) (hbw : Below w.heap.size w w1) (hres : w1.heap[w.heap.size]? = some (.cells #[.slice none 0 0, .int .i64 0, .int .i64 0, .int .i64 0] 24 (0, 0))) :
    RW w w1 ((w1.alloc (.cells #[.slice ta T.length tc, .int .i64 0, .bool false, .int .i64 0] 60)).alloc (.cells #[.slice none 0 0, .int .i64 0, .int .i64 0, .int .i64 0] 24)) ta tc T (some T) 0 pr0 none 0 0 [] :=
  ⟨((two_old _ _).block _ (lt_of_block hres)).trans hres, heap_alloc2_new _ _ _, Fns.nil _ _, ⟨Nat.le_refl _, two_old _ _, hS, 0, false, heap_alloc2_old _ _ _, by omega, by simp⟩, below_then hbw (two_old _ _), lt_of_block hres⟩
theorem zero_below {w wr : World} (h : Below w.heap.size w wr) : Below w.heap.size w ((((wr.setCell ⟨w.heap.size, 0, none⟩ (.slice none 0 0)).setCell ⟨w.heap.size, 1, none⟩ (.int .i64 0)).setCell ⟨w.heap.size, 2, none⟩ (.int .i64 0)).setCell ⟨w.heap.size, 3, none⟩ (.int .i64 0)) := (((h.setCell (by simp) _).setCell (by simp) _).setCell (by simp) _).setCell (by simp) _
theorem pat_bad {w1 wr : World} {r : Nat} {ta : Option Addr} {tc : Nat} {T : List Tk} {off : Int} (h : PAt w1 wr r ta tc T none off) : wr.cell? ⟨r, 2, none⟩ = some (.bool true) := by
  obtain ⟨I, bad, hb, -, ho⟩ := h.box
  have : bad = true := by
    cases bad with
    | true => rfl
    | false => simp at ho
  subst this
  exact (p_cells hb).2.2.1
theorem pat_good {w1 wr : World} {r : Nat} {ta : Option Addr} {tc : Nat} {T R : List Tk} {off : Int} (h : PAt w1 wr r ta tc T (some R) off) : wr.cell? ⟨r, 2, none⟩ = some (.bool false) := by
  obtain ⟨I, bad, hb, -, ho⟩ := h.box
  have : bad = false := by
    cases bad with
    | false => rfl
    | true => simp at ho
  subst this
  exact (p_cells hb).2.2.1
theorem out_cells {w : World} {r : Nat} {a b c d : Value} (h : w.heap[r]? = some (.cells #[a, b, c, d] 24 (0, 0))) : w.cell? ⟨r, 0, none⟩ = some a ∧ w.cell? ⟨r, 1, none⟩ = some b ∧ w.cell? ⟨r, 2, none⟩ = some c ∧ w.cell? ⟨r, 3, none⟩ = some d :=
  ⟨by simp [cell_of_row _ _ _ _ _ _ h], by simp [cell_of_row _ _ _ _ _ _ h], by simp [cell_of_row _ _ _ _ _ _ h], by simp [cell_of_row _ _ _ _ _ _ h]⟩
theorem outF_nn : ∀ (all : List Sm), (∀ u ∈ all, 1 ≤ u.l) → 0 ≤ outF all
  | [], _ => Int.le_refl _
  | a :: all, h => by
    have ih := outF_nn all fun u hu => h u (by simp [hu])
    have ha := h a (by simp)
    unfold outF
    split
    · exact ih
    · omega
def muW (r n : Nat) (wr : World) : Nat := n - (intOf ((wr.cell? ⟨r, 1, none⟩).getD (.int .i64 0))).toNat
theorem mu_pat {w1 wr : World} {r : Nat} {ta : Option Addr} {tc : Nat} {T R : List Tk} {off : Int} (h : PAt w1 wr r ta tc T (some R) off) : muW r T.length wr = R.length := by
  obtain ⟨I, bad, hb, hI, ho⟩ := h.box
  have hbad : bad = false := by
    cases bad with
    | false => rfl
    | true => simp at ho
  subst hbad
  obtain rfl : R = T.drop I := by simpa using ho
  unfold muW
  rw [(p_cells hb).2.1]
  simp [intOf]
theorem pat_open {w1 wr : World} {r : Nat} {ta : Option Addr} {tc : Nat} {T R : List Tk} {off : Int} (h : PAt w1 wr r ta tc T (some R) off) : ∃ I : Nat, wr.heap[r]? = some (.cells #[.slice ta T.length tc, .int .i64 I, .bool false, .int .i64 off] 60 (0, 0)) ∧ I ≤ T.length ∧ R = T.drop I := by
  obtain ⟨I, bad, hb, hI, ho⟩ := h.box
  have hbad : bad = false := by
    cases bad with
    | false => rfl
    | true => simp at ho
  subst hbad
  exact ⟨I, hb, hI, by simpa using ho⟩
theorem out_first (a b c : Sm) (ha : 1 ≤ a.l) (hb : 1 ≤ b.l) : outF ([] ++ [a] ++ [b] ++ [c]) = offI (offI (offI 0 a.l (rangeB a)) b.l (rangeB b)) c.l (rangeB c) := by
  rw [outF_snoc _ _ (by simp; exact ⟨ha, hb⟩), outF_snoc _ _ (by simp; exact ha), outF_snoc _ _ (by simp)]
  rfl
section
variable {w w1 wr w4 : World} {ta : Option Addr} {tc : Nat} {T : List Tk} {o : Option (List Tk)} {off : Int} {p : Pr} {fa : Option Addr} {fl fc : Nat} {vals : List Value}
/-- what is appended to a row that lies behind turns nothing else -/
theorem RW.grown (h : RW w w1 wr ta tc T o off p fa fl fc vals) {row : Option Nat} (hrow : ∀ g, row = some g → w1.heap.size + 2 ≤ g) (hgrow : wr.grownBy w4 row) :
    w4.heap[w.heap.size]? = some (.cells #[.slice none 0 0, .int .i64 0, .int .i64 0, .int .i64 0] 24 (0, 0)) ∧ w4.heap[w1.heap.size + 1]? = some (.cells #[.slice fa fl fc, .int .i64 p.futs, .int .i64 p.depth, .int .i64 p.fuel] 24 (0, 0)) ∧ PAt w1 w4 w1.heap.size ta tc T o off ∧ Below w.heap.size w w4 := by
  have hz := h.szs
  have hne : ∀ k, k < w1.heap.size + 2 → some k ≠ row := fun k hk e => by have := hrow k e.symm; omega
  refine ⟨(hgrow.block _ (lt_of_block h.out) (hne _ (by omega))).trans h.out, (hgrow.block _ (lt_of_block h.box) (hne _ (by omega))).trans h.box, h.pat.move ⟨hgrow.os, hgrow.tape, hgrow.output, hgrow.size, fun k hk => hgrow.block k (by have := h.pat.low.size; omega) (hne _ (by omega))⟩ (hgrow.block _ h.pat.lt (hne _ (by omega))), ?_⟩
  exact h.low.trans ⟨hgrow.os, hgrow.tape, hgrow.output, hgrow.size, fun k hk => hgrow.block k (by have := h.low.size; omega) (hne _ (by omega))⟩
theorem RW.more (h : RW w w1 wr ta tc T o off p fa fl fc vals) {gg cap : Nat} (hgrow : wr.grownBy w4 (Value.slice fa fl fc).ownBlock) (hown : w4.ownsRow (w1.heap.size + 2) 39 1 (.slice (some ⟨gg, 0, none⟩) (vals.length + 1) cap) (vals.length + 1) (vals ++ [.slice none 0 0])) :
    RW w w1 (w4.setCell ⟨w1.heap.size + 1, 0, none⟩ (.slice (some ⟨gg, 0, none⟩) (vals.length + 1) cap)) ta tc T o off ⟨p.fs ++ [[]], p.futs, p.depth, p.fuel⟩ (some ⟨gg, 0, none⟩) (vals.length + 1) cap (vals ++ [.slice none 0 0]) := by
  have hz := h.szs
  obtain ⟨h1, h2, h3, h4⟩ := h.grown (fun g hg => own_blk h.fns.row hg) hgrow
  have hF := h.fns.more hgrow hown
  refine ⟨(Below.heap_setCell _ _ _ _ (by show w.heap.size ≠ w1.heap.size + 1; omega)).trans h1, ?_, hF.far fun g h1 h2 => Below.heap_setCell _ _ _ _ (by show g ≠ w1.heap.size + 1; omega), h3.setHi (by omega) _, h4.setCell (p := ⟨w1.heap.size + 1, 0, none⟩) (by show w.heap.size ≤ w1.heap.size + 1; omega) _, hz⟩
  rw [heap_setCell_same _ _ _ _ _ _ h2]
  rfl
theorem RW.push {F : List (List In)} {f : List In} {V : List Value} {v : Value} {go gc g cap : Nat} {i : In} (h : RW w w1 wr ta tc T o off p (some ⟨go, 0, none⟩) (V.length + 1) gc (V ++ [v])) (hfs : p.fs = F ++ [f]) (hgrow : wr.grownBy w4 v.ownBlock) (hvB : ∀ g, v.ownBlock = some g → w1.heap.size + 2 ≤ g)
    (hown : w4.ownsRow (w1.heap.size + 2) 42 4 (.slice (some ⟨g, 0, none⟩) (f.length + 1) cap) (f.length + 1) (cellsI f ++ insC i)) (loc : v.ownBlock = some g ∨ g = wr.heap.size) :
    RW w w1 (w4.setCell ⟨go, V.length, none⟩ (.slice (some ⟨g, 0, none⟩) (f.length + 1) cap)) ta tc T o off ⟨F ++ [f ++ [i]], p.futs, p.depth, p.fuel⟩ (some ⟨go, 0, none⟩) (V.length + 1) gc (V ++ [.slice (some ⟨g, 0, none⟩) (f.length + 1) cap]) := by
  have hz := h.szs
  have hgo : w1.heap.size + 2 ≤ go := own_blk h.fns.row rfl
  obtain ⟨h1, h2, h3, h4⟩ := h.grown hvB hgrow
  have hf := h.fns
  rw [hfs] at hf
  refine ⟨(Below.heap_setCell _ _ _ _ (by show w.heap.size ≠ go; omega)).trans h1, (Below.heap_setCell _ _ _ _ (by show w1.heap.size + 1 ≠ go; omega)).trans h2, hf.push hgrow hown loc, h3.setHi (by omega) _, h4.setCell (p := ⟨go, V.length, none⟩) (by show w.heap.size ≤ go; omega) _, hz⟩
end
end Go.Proofs.YtnhogbgnnnniaaaDoor
namespace Go.Proofs.YtnhogbgnnnniaaaDoor
open Go.RowKit L3
open C2 (In Pr shapeI SlF SlI InsAt putE putT BoxedP)

theorem UT_fin {p : Pr} {i : Nat} {f : List In} {k : Nat} (h : k < f.length) {S : ByteArray} (hS : S = strB (UT (QT p i f k) f[k] (opsOf f[k].o.toNat).toNat)) : Value.string (S ++ ⟨#[10]⟩) = .string (strB (QT p i f (k + 1))) := by
  rw [hS, ← QT_step p i f k h, ← strB_append]
  rfl
theorem UT_more {q : List UInt8} {x : In} {j : Nat} (h : j < 3) (h0 : 0 < j) {S D : ByteArray} (hS : S = strB (UT q x j)) (hD : D = strB (decB (abc x j))) : Value.string (S ++ ⟨#[44]⟩ ++ ⟨#[32]⟩ ++ D) = .string (strB (UT q x (j + 1))) := by
  rw [hS, hD, UT_step q x j h, if_pos h0, ← strB_append, ← strB_append, ← strB_append]
  rfl
theorem UT_one {q : List UInt8} {x : In} {S D : ByteArray} (hS : S = strB (UT q x 0)) (hD : D = strB (decB (abc x 0))) : Value.string (S ++ ⟨#[32]⟩ ++ D) = .string (strB (UT q x (0 + 1))) := by
  rw [hS, hD, UT_step q x 0 (by omega), if_neg (by omega), List.append_nil, ← strB_append, ← strB_append]
  rfl
theorem UT_first {q : List UInt8} {x : In} {S D : ByteArray} (hS : S = strB q) (hD : D = strB (wordOf x.o.toNat)) : Value.string (S ++ ⟨#[32, 32]⟩ ++ D) = .string (strB (UT q x 0)) := by
  rw [hS, hD, UT_zero, ← strB_append, ← strB_append]
  rfl
theorem QT_first {p : Pr} {i : Nat} (f : List In) {S : ByteArray} (hS : S = strB (RT p i)) : Value.string (S ++ ⟨#[102, 117, 110, 99, 116, 105, 111, 110, 10]⟩) = .string (strB (QT p i f 0)) := by
  rw [hS, QT_zero, ← strB_append]
  rfl
theorem hd3_str {p : Pr} {S1 S2 S3 : ByteArray} (h1 : S1 = strB (decB p.futs)) (h2 : S2 = strB (decB p.depth)) (h3 : S3 = strB (decB p.fuel)) : Value.string (⟨#[102, 117, 116, 117, 114, 101, 115, 32]⟩ ++ S1 ++ ⟨#[10, 100, 101, 112, 116, 104, 32]⟩ ++ S2 ++ ⟨#[10, 102, 117, 101, 108, 32]⟩ ++ S3 ++ ⟨#[10]⟩) = .string (strB (RT p 0)) := by
  rw [h1, h2, h3, RT_zero, hd3_eq, ← strB_append, ← strB_append, ← strB_append, ← strB_append, ← strB_append, ← strB_append]
  rfl
theorem str_len {l : List UInt8} {S : ByteArray} {n : Nat} (h : S = strB l) (hl : l.length ≤ n) : S.size ≤ n := by
  rw [h, strB_size]
  exact hl
def decS (v : Int) : ByteArray := strB (decB v)
theorem rdecS (v : Int) (h : inR v) (w : World) : Calls Tryd.prog 43 #[.int .i64 v] w fun e w' => e = .returned (.string (decS v)) ∧ ∃ m, w' = w.drewN m := rdec_any v (by unfold inR at h; omega) (by unfold inR at h; omega) w
def RTextPost (p : Pr) (w : World) (e : Ending) (w' : World) : Prop := e = .returned (.string (strB (txtF p))) ∧ Below w.heap.size w w'
set_option maxRecDepth 4000 in
set_option maxHeartbeats 4000000 in
theorem RText_any (p : Pr) (fv : Value) (w : World) (hF : SlF w fv p.fs) (hn : p.fs.length ≤ 1000000) (hm : ∀ f ∈ p.fs, f.length ≤ 1000000) :
    Calls Tryd.prog 14 #[.agg #[fv, .int .i64 p.futs, .int .i64 p.depth, .int .i64 p.fuel]] w fun e w' => RTextPost p w e w' := by
  have hF0 := hF
  obtain ⟨fa, fc, rfl, -⟩ := hF0
  have hB1 := BoxedP.made hF
  have hb1 := below_alloc (Below.refl w.heap.size w) (.cells #[.slice fa p.fs.length fc, .int .i64 p.futs, .int .i64 p.depth, .int .i64 p.fuel] 24)
  have hput := C2.RPut_any p _ _ hB1.fns hn hm
  clear hF
  go_enter Tryd.func14, Tryd.ntmps14
  go_wp2_with fail
  refine hput.mono ?_
  rintro e w1 ⟨rfl, hb1'⟩
  have hb2 := below_then hb1 hb1'
  have hB2 := hB1.kept hb1'
  clear hput hb1 hb1' hB1
  by_cases hp : putE p = 0
  · have hg := C2.good_of_code hp
    have HTX : Hid (txtF p = textP p) := show txtF p = textP p by unfold txtF; rw [if_pos hp]
    rw [hp]
    clear hp
    obtain ⟨d0, d1, d2, d3⟩ := hB2.cells
    have hgb := block_lt_of_cell d0
    have i1 : inR p.futs := by have := hg.futs; unfold inR; omega
    have i2 : inR p.depth := by have := hg.depth; unfold inR; omega
    have i3 : inR p.fuel := by have := hg.fuel; unfold inR; omega
    have z1 := str_len (S := decS p.futs) rfl (decB_len i1)
    have z2 := str_len (S := decS p.depth) rfl (decB_len i2)
    have z3 := str_len (S := decS p.fuel) rfl (decB_len i3)
    have HH : Hid (Value.string (⟨#[102, 117, 116, 117, 114, 101, 115, 32]⟩ ++ decS p.futs ++ ⟨#[10, 100, 101, 112, 116, 104, 32]⟩ ++ decS p.depth ++ ⟨#[10, 102, 117, 101, 108, 32]⟩ ++ decS p.fuel ++ ⟨#[10]⟩) = .string (strB (RT p 0))) := hd3_str rfl rfl rfl
    generalize C2.strB (putT p) = SP
    have HB2 : Hid (BoxedP w1 w.heap.size fa fc p) := hB2
    have HN : Hid (Below w.heap.size w w1) := hb2
    have HG : Hid (C2.Good p) := hg
    clear hB2 hb2 hg hn hm d0
    go_wp2_with fail
    go_quiet ((go_at_call 43; exact Calls.quiet_of (rdecS _ (by assumption) _)))
    clear i1 i2 i3 z1 z2 z3 d1 d2 d3 hgb
    go_wp2_with fail
    rw [HH.out]
    clear HH
    have hbq : Below w1.heap.size w1 (w1.drewN nq) := C2.below_drewN (Below.refl _ _) nq
    refine (names_any _).mono ?_
    rintro e w2 ⟨rfl, hb2'⟩
    have hb12 := below_alloc (below_then hbq hb2') (.cells namesV 80)
    have hB3 := HB2.out.kept hb12
    have hb3 := below_then HN.out hb12
    have hx : (w2.alloc (.cells namesV 80)).heap[w2.heap.size]? = some (.cells namesV 80 (0, 0)) := heap_alloc_new _ _
    have HX : Hid ((w2.alloc (.cells namesV 80)).heap[w2.heap.size]? = some (.cells namesV 80 (0, 0))) := hx
    have HB3 : Hid (BoxedP (w2.alloc (.cells namesV 80)) w.heap.size fa fc p) := hB3
    have HN3 : Hid (Below w.heap.size w (w2.alloc (.cells namesV 80))) := hb3
    clear hbq hb2' hb12 hB3 hb3 hx HB2 HN
    rw [names_lit]
    go_wp2_with fail
    rw [← names_lit]
    generalize hW0 : w2.alloc (.cells namesV 80) = W0 at *
    generalize hG0 : w2.heap.size = G0 at *
    clear hW0 hG0
    go_loopw [5, 7] (fun sv iv wr => ∃ i : Nat, i ≤ p.fs.length ∧ iv = .int .i64 i ∧ sv = .string (strB (RT p i)) ∧ Below W0.heap.size W0 wr) (fun _ iv _ => p.fs.length - (intOf iv).toNat)
    case atStart => exact ⟨0, by omega, rfl, rfl, Below.refl _ _⟩
    case round =>
      obtain ⟨i, hi, rfl, rfl, hBl⟩ := hrel
      have hB5 := HB3.out.kept hBl
      obtain ⟨d0, -, -, -⟩ := hB5.cells
      have hl := RT_len p HG.out i hi
      have hnf := HG.out.few
      by_cases hlt : i < p.fs.length
      · obtain ⟨fa', fc', he, hfx⟩ := hB5.fns
        obtain ⟨rfl, rfl⟩ : fa' = fa ∧ fc' = fc := by simp at he; exact ⟨he.1.symm, he.2.symm⟩
        clear he
        obtain ⟨g, f, u, rfl, hc, xa, xc, rfl, hI⟩ := hfx i hlt
        have hsm := HG.out.small _ (List.getElem_mem hlt)
        have hsh := HG.out.shapes _ (List.getElem_mem hlt)
        have HQL : Hid (∀ k, (QT p i p.fs[i] k).length ≤ 50000) := QT_len p HG.out i hlt
        have HQD : Hid (QT p i p.fs[i] p.fs[i].length = RT p (i + 1)) := RT_step p i hlt
        clear hfx
        generalize hfi : p.fs[i] = fi at *
        clear hfi
        obtain ⟨S, hS⟩ : ∃ S, S = strB (RT p i) := ⟨_, rfl⟩
        have hz := str_len hS hl
        have HQ : Hid (Value.string (S ++ ⟨#[102, 117, 110, 99, 116, 105, 111, 110, 10]⟩) = .string (strB (QT p i fi 0))) := QT_first fi hS
        rw [← hS]
        clear hS hl hB5
        obtain ⟨W, rfl⟩ : ∃ W, W = wr := ⟨wr, rfl⟩
        go_wp2_with fail
        rw [HQ.out]
        clear HQ hz
        go_loopw [5, 8] (fun sv kv wr => ∃ k : Nat, k ≤ fi.length ∧ kv = .int .i64 k ∧ sv = .string (strB (QT p i fi k)) ∧ Below W.heap.size W wr) (fun _ kv _ => fi.length - (intOf kv).toNat)
        case atStart => exact ⟨0, by omega, rfl, rfl, Below.refl _ _⟩
        case round =>
          obtain ⟨k, hk, rfl, rfl, hBi⟩ := hrel
          have st := C2.still_of_below hBi
          have d0' := st _ _ d0
          have hc' := st _ _ hc
          by_cases hkl : k < fi.length
          · obtain ⟨g', f', rfl, hA⟩ := hI k hkl
            have hs : shapeI fi[k] = true := List.all_eq_true.1 hsh _ (List.getElem_mem hkl)
            have HF : Hid (∀ {S : ByteArray}, S = strB (UT (QT p i fi k) fi[k] (opsOf fi[k].o.toNat).toNat) → Value.string (S ++ ⟨#[10]⟩) = .string (strB (QT p i fi (k + 1)))) := fun {S} hS => UT_fin hkl hS
            have hq := HQL.out k
            obtain ⟨y0, y1, y2, y3⟩ := hA.still st
            clear hA
            generalize hxk : fi[k] = x at *
            clear hxk
            have hsp := shp hs
            have hox := hsp.eq
            have ho1 := hsp.lo
            have ho2 := hsp.hi
            have HUL : Hid (∀ j, (UT (QT p i fi k) x j).length ≤ (QT p i fi k).length + 60) := UT_len _ x hs
            have HUS : Hid (∀ j, inR (abc x j)) := abc_in hs
            generalize hqq : QT p i fi k = q at *
            clear hqq
            obtain ⟨S, hS⟩ : ∃ S, S = strB q := ⟨_, rfl⟩
            have hz := str_len hS hq
            have HU := UT_first (x := x) hS (D := strB (wordOf x.o.toNat)) rfl
            rw [← hS]
            clear hS
            generalize hto : x.o.toNat = o at *
            rw [hox] at y0
            have HXL : Hid (x.o.toNat = o) := hto
            have hwl := word_len o (by omega)
            have hn : wr.cell? ⟨G0, o, none⟩ = some (.string (strB (wordOf o))) := by
              have hbb := below_then hBl hBi
              have h1 : wr.heap[G0]? = some (.cells namesV 80 (0, 0)) := (hbb.block _ (lt_of_block HX.out)).trans HX.out
              rw [cell_of_row wr G0 o _ _ _ h1]
              exact names_at o (by omega)
            have hng := block_lt_of_cell hn
            have hz2 : (strB (wordOf o)).size ≤ 8 := by rw [strB_size]; exact hwl
            obtain ⟨SW, hSW⟩ : ∃ S, strB (wordOf o) = S := ⟨_, rfl⟩
            rw [hSW] at hn hz2 HU
            have HU2 : Hid (Value.string (S ++ ⟨#[32, 32]⟩ ++ SW) = .string (strB (UT q x 0))) := HU
            clear hSW HU hsp hs hox hto hwl
            have hW2 := below_alloc (below_alloc hBi (.cells #[.int .i64 (o : Int), .int .i64 x.a, .int .i64 x.b, .int .i64 x.c] 42)) (.cells #[.int .i64 x.a, .int .i64 x.b, .int .i64 x.c] 82)
            have HW2 : Hid (Below W.heap.size W ((wr.alloc (.cells #[.int .i64 (o : Int), .int .i64 x.a, .int .i64 x.b, .int .i64 x.c] 42)).alloc (.cells #[.int .i64 x.a, .int .i64 x.b, .int .i64 x.c] 82))) := hW2
            have hc1 : ((wr.alloc (.cells #[.int .i64 (o : Int), .int .i64 x.a, .int .i64 x.b, .int .i64 x.c] 42)).alloc (.cells #[.int .i64 x.a, .int .i64 x.b, .int .i64 x.c] 82)).heap[wr.heap.size]? = some (.cells #[.int .i64 (o : Int), .int .i64 x.a, .int .i64 x.b, .int .i64 x.c] 42 (0, 0)) := (Below.heap_alloc _ _ _ (by simp)).trans (heap_alloc_new _ _)
            have hc2 : ((wr.alloc (.cells #[.int .i64 (o : Int), .int .i64 x.a, .int .i64 x.b, .int .i64 x.c] 42)).alloc (.cells #[.int .i64 x.a, .int .i64 x.b, .int .i64 x.c] 82)).heap[wr.heap.size + 1]? = some (.cells #[.int .i64 x.a, .int .i64 x.b, .int .i64 x.c] 82 (0, 0)) := by have := heap_alloc_new (wr.alloc (.cells #[.int .i64 (o : Int), .int .i64 x.a, .int .i64 x.b, .int .i64 x.c] 42)) (.cells #[.int .i64 x.a, .int .i64 x.b, .int .i64 x.c] 82); simpa using this
            have HC1 : Hid (_ = _) := hc1
            have HC2 : Hid (_ = _) := hc2
            clear hW2 hc1 hc2 st hBi
            go_wp2_with fail
            rw [HU2.out]
            clear HU2 y0 y1 y2 y3 hz hz2 hn hng
            generalize hWW : (wr.alloc (.cells #[.int .i64 (o : Int), .int .i64 x.a, .int .i64 x.b, .int .i64 x.c] 42)).alloc (.cells #[.int .i64 x.a, .int .i64 x.b, .int .i64 x.c] 82) = W2 at *
            generalize hGG : wr.heap.size = G at *
            clear hWW hGG
            obtain ⟨n, hnn⟩ : ∃ n : Nat, opsOf o = (n : Int) := ⟨(opsOf o).toNat, by have := opsOf_bd o; omega⟩
            have hn3 : n ≤ 3 := by have := opsOf_bd o; omega
            have hmany := fun W => many_any o (by omega) (by omega) W
            simp only [hnn] at hmany
            have HF2 : Hid (∀ {S : ByteArray}, S = strB (UT q x n) → Value.string (S ++ ⟨#[10]⟩) = .string (strB (QT p i fi (k + 1)))) := fun {S} hS => HF.out (by rw [hnn]; simpa using hS)
            clear HF HXL hnn
            go_loopw [5, 11] (fun sv jv wr => ∃ j : Nat, j ≤ n ∧ jv = .int .i64 j ∧ sv = .string (strB (UT q x j)) ∧ Below W2.heap.size W2 wr) (fun _ jv _ => n - (intOf jv).toNat)
            case atStart => exact ⟨0, by omega, rfl, rfl, Below.refl _ _⟩
            case round =>
              obtain ⟨j, hj, rfl, rfl, hBj⟩ := hrel
              have h1 := (hBj.block _ (lt_of_block HC1.out)).trans HC1.out
              have e0 := cell_of_row _ _ 0 _ _ _ h1
              simp at e0
              have e0g := block_lt_of_cell e0
              have hlj := HUL.out j
              obtain ⟨S, hS⟩ : ∃ S, S = strB (UT q x j) := ⟨_, rfl⟩
              have hz := str_len hS (by omega : (UT q x j).length ≤ 50060)
              by_cases hjn : j < n
              · have hin := HUS.out j
                have h2 := (hBj.block _ (lt_of_block HC2.out)).trans HC2.out
                have ej0 : wr.cell? ⟨G + 1, j, none⟩ = some (.int .i64 (abc x j)) := by
                  rw [cell_of_row _ _ j _ _ _ h2]
                  rcases (by omega : j = 0 ∨ j = 1 ∨ j = 2) with rfl | rfl | rfl <;> rfl
                have hzd := str_len (S := decS (abc x j)) rfl (decB_len hin)
                by_cases hj0 : j = 0
                · subst hj0
                  have HE : Hid (Value.string (S ++ ⟨#[32]⟩ ++ decS (abc x 0)) = .string (strB (UT q x (0 + 1)))) := UT_one hS rfl
                  rw [← hS]
                  clear hS h1 h2
                  generalize abc x 0 = v at *
                  go_wp2_with fail
                  refine (hmany _).mono ?_
                  rintro e w5 ⟨rfl, hb5⟩
                  have ej := (C2.still_of_below hb5) _ _ ej0
                  have ejg := block_lt_of_cell ej
                  go_wp2_with fail
                  refine (rdecS v hin _).mono ?_
                  rintro e w6 ⟨rfl, hw6⟩
                  have hb6 := below_then hBj (below_then hb5 (drew_below hw6))
                  clear hw6 hb5 ej ejg ej0
                  go_wp2_with fail
                  go_roundw
                  case rel => exact ⟨0 + 1, by omega, by go_num, HE.out, hb6⟩
                  case measure => simp [intOf]; omega
                · have HE : Hid (Value.string (S ++ ⟨#[44]⟩ ++ ⟨#[32]⟩ ++ decS (abc x j)) = .string (strB (UT q x (j + 1)))) := UT_more (by omega) (by omega) hS rfl
                  rw [← hS]
                  clear hS h1 h2
                  generalize abc x j = v at *
                  go_wp2_with fail
                  refine (hmany _).mono ?_
                  rintro e w5 ⟨rfl, hb5⟩
                  have ej := (C2.still_of_below hb5) _ _ ej0
                  have ejg := block_lt_of_cell ej
                  have hjp : (0 : Int) < (j : Int) := by omega
                  go_wp2_with fail
                  refine (rdecS v hin _).mono ?_
                  rintro e w6 ⟨rfl, hw6⟩
                  have hb6 := below_then hBj (below_then hb5 (drew_below hw6))
                  clear hw6 hb5 ej ejg ej0
                  go_wp2_with fail
                  go_roundw
                  case rel => exact ⟨j + 1, by omega, by go_num, HE.out, hb6⟩
                  case measure => simp [intOf]; omega
              · obtain rfl : j = n := by omega
                have HE : Hid (Value.string (S ++ ⟨#[10]⟩) = .string (strB (QT p i fi (k + 1)))) := HF2.out hS
                rw [← hS]
                clear hS h1
                go_wp2_with fail
                refine (hmany _).mono ?_
                rintro e w5 ⟨rfl, hb5⟩
                have hd : decide ((j : Int) < (j : Int)) = false := by simp
                have hb6 := below_then HW2.out (below_then hBj hb5)
                clear hb5
                go_wp2_with fail
                go_roundw
                case rel => exact ⟨k + 1, by omega, by go_num, HE.out, hb6⟩
                case measure => simp [intOf]; omega
          · obtain rfl : k = fi.length := by omega
            rw [HQD.out]
            go_wp2_with fail
            go_roundw
            case rel => exact ⟨i + 1, by omega, by go_num, rfl, below_then hBl hBi⟩
            case measure => simp [intOf]; omega
      · obtain rfl : i = p.fs.length := by omega
        rw [RT_done]
        go_wp2_with fail
        go_ret
        exact ⟨by rw [HTX.out]; rfl, below_then HN3.out hBl⟩
  · have e1 : (putE p != 0) = true := by simpa using hp
    have HTX : Hid (txtF p = []) := show txtF p = [] by unfold txtF; rw [if_neg hp]
    generalize putE p = q at *
    generalize C2.strB (putT p) = SP
    go_wp2_with fail
    go_ret
    exact ⟨by rw [HTX.out]; rfl, hb2⟩
end Go.Proofs.YtnhogbgnnnniaaaDoor
