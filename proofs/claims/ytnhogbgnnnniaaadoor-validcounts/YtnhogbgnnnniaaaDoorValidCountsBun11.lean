/-
  Helpers: Vf, Vx.
-/
import Derived.Test.YtnhogbgnnnniaaaDoorValidCountsBun10
import Derived.Test.YtnhogbgnnnniaaaDoorValidCountsBun7
namespace Go.Proofs.YtnhogbgnnnniaaaDoor
open Go.RowKit
open C2 (In Pr SlF SlI InsAt Tab BoxedP below_alloc below_then still_of_below Still)

theorem infoI : (Tryd.prog.info? 3).map (fun i => (i.zero, i.size, i.bytes)) = some (some (.int .i64 0), 1, 8) := by kernel_rfl
def noughts (n : Nat) : Array Value := madeCells #[.int .i64 0] (n * 1)
theorem noughts_size (n : Nat) : (noughts n).size = n := by rw [noughts, size_madeCells]; omega
theorem noughts_at (n j : Nat) (h : j < n) : (noughts n)[j]? = some (.int .i64 0) := by
  have := toList_madeCells_one (.int .i64 0) n
  rw [noughts, Nat.mul_one, ← Array.getElem?_toList, this]
  simp [h]
theorem make_ints (n : Nat) (h : n ≤ 1000) (w : World) : (Instr.makeSlice 36 (.int .i64 (n : Int)) (.int .i64 (n : Int))).run Tryd.prog w = .ok (.slice (some ⟨w.heap.size, 0, none⟩) n n) (w.alloc (.cells (noughts n) 3)) := by
  obtain ⟨i0, hi, hz0, hz1, hz2⟩ := info_parts infoI
  have hr := run_make (P := Tryd.prog) w 36 3 i0 _ Tryd.underlying36 hi hz0 .i64 .i64 n n (by omega) (Int.le_refl _) (by rw [hz2]; omega) (by omega)
  simp only [Int.toNat_natCast, hz1] at hr
  exact hr
/-- the counts under way -/
structure FkAt (w : World) (G n : Nat) (fs : List (List In)) (i : Nat) (cur : Array Value) : Prop where
  block : w.heap[G]? = some (.cells cur 3 (0, 0))
  size : cur.size = n
  told : ∀ j (h : j < fs.length), j < i → cur[j]? = some (.int .i64 (cntF 9 fs[j]))
  rest : ∀ j, i ≤ j → j < n → cur[j]? = some (.int .i64 0)
theorem FkAt.same {w w' : World} {G n : Nat} {fs : List (List In)} {i : Nat} {cur : Array Value} (h : FkAt w G n fs i cur) (hb : w'.heap[G]? = w.heap[G]?) : FkAt w' G n fs i cur := ⟨hb.trans h.block, h.size, h.told, h.rest⟩
def FkPost (p : Pr) (w : World) (e : Ending) (w' : World) : Prop := ∃ a c, e = .returned (.slice a p.fs.length c) ∧ SlN w' (.slice a p.fs.length c) (forksF p.fs) ∧ Below w.heap.size w w'
theorem forksF_length (fs : List (List In)) : (forksF fs).length = fs.length := by simp [forksF]
set_option maxHeartbeats 1000000 in
theorem Forks_any (p : Pr) (fv : Value) (w : World) (hF : SlF w fv p.fs) (hn : p.fs.length ≤ 1000) (hm : ∀ f ∈ p.fs, f.length ≤ 1000) :
    Calls Tryd.prog 19 #[.agg #[fv, .int .i64 p.futs, .int .i64 p.depth, .int .i64 p.fuel]] w fun e w' => FkPost p w e w' := by
  have hF0 := hF
  obtain ⟨fa, fc, rfl, -⟩ := hF0
  have hB := BoxedP.made hF
  have hb := below_alloc (Below.refl w.heap.size w) (.cells #[.slice fa p.fs.length fc, .int .i64 p.futs, .int .i64 p.depth, .int .i64 p.fuel] 24)
  have hmk := make_ints p.fs.length hn
  clear hF
  go_enter Tryd.func19, Tryd.ntmps19
  go_wp2_with fail
  have hz : (w.alloc (.cells #[.slice fa p.fs.length fc, .int .i64 p.futs, .int .i64 p.depth, .int .i64 p.fuel] 24)).heap.size = w.heap.size + 1 := by simp
  have hFk : FkAt ((w.alloc (.cells #[.slice fa p.fs.length fc, .int .i64 p.futs, .int .i64 p.depth, .int .i64 p.fuel] 24)).alloc (.cells (noughts p.fs.length) 3)) (w.heap.size + 1) p.fs.length p.fs 0 (noughts p.fs.length) :=
    ⟨by rw [← hz]; exact heap_alloc_new _ _, noughts_size _, fun j _ h => by omega, fun j _ h => noughts_at _ _ h⟩
  have hB0 := below_alloc (Below.refl (w.alloc (.cells #[.slice fa p.fs.length fc, .int .i64 p.futs, .int .i64 p.depth, .int .i64 p.fuel] 24)).heap.size (w.alloc (.cells #[.slice fa p.fs.length fc, .int .i64 p.futs, .int .i64 p.depth, .int .i64 p.fuel] 24))) (.cells (noughts p.fs.length) 3)
  generalize hW1 : (w.alloc (.cells #[.slice fa p.fs.length fc, .int .i64 p.futs, .int .i64 p.depth, .int .i64 p.fuel] 24)).alloc (.cells (noughts p.fs.length) 3) = W1 at *
  generalize hW0 : w.alloc (.cells #[.slice fa p.fs.length fc, .int .i64 p.futs, .int .i64 p.depth, .int .i64 p.fuel] 24) = W0 at *
  clear hW0 hW1
  obtain ⟨d0, d1, d2, d3⟩ := (hB.kept hB0).cells
  go_wp2_with fail
  go_loopw [15] (fun iv wr => ∃ (i : Nat) (cur : Array Value), i ≤ p.fs.length ∧ iv = .int .i64 i ∧ FkAt wr (w.heap.size + 1) p.fs.length p.fs i cur ∧ Below W0.heap.size W0 wr) (fun iv _ => p.fs.length - (intOf iv).toNat)
  case atStart => exact ⟨0, _, by omega, rfl, hFk, hB0⟩
  case round =>
    obtain ⟨i, cur, hi, rfl, hC, hBl⟩ := hrel
    clear hFk d0 d1 d2 d3 hB0 hmk
    have hB3 := hB.kept hBl
    by_cases hlt : i < p.fs.length
    · obtain ⟨fa', fc', he, hfx⟩ := hB3.fns
      obtain ⟨rfl, rfl⟩ : fa' = fa ∧ fc' = fc := by simp at he; exact ⟨he.1.symm, he.2.symm⟩
      clear he
      obtain ⟨g, f, u, rfl, hc, hI⟩ := hfx i hlt
      have hI0 := hB.fns
      obtain ⟨fa2, fc2, he2, hfx2⟩ := hI0
      obtain ⟨rfl, rfl⟩ : some ⟨g, f, none⟩ = fa2 ∧ fc' = fc2 := by simp at he2; exact he2
      obtain ⟨g2, f2, u2, hgg, hc2, hI2⟩ := hfx2 i hlt
      obtain ⟨rfl, rfl⟩ : g = g2 ∧ f = f2 := by simp at hgg; exact hgg
      have hcc := still_of_below hBl _ _ hc2
      rw [hc] at hcc
      obtain rfl : u = u2 := Option.some.inj hcc
      clear hcc hc2 hgg hfx hfx2 he2 hI
      have hI0 := hI2
      obtain ⟨xa, xc, rfl, -⟩ := hI0
      have hmi := hm _ (List.getElem_mem hlt)
      have HX : Hid (∀ c : Nat, c = cntF 9 p.fs[i] → c = cntF 9 p.fs[i]) := fun c h => h
      generalize hX : p.fs[i] = X at *
      have HX : Hid (p.fs[i] = X) := hX
      clear hX
      have hz0 := hC.rest i (Nat.le_refl _) hlt
      have hcs := hC.size
      obtain ⟨W, rfl⟩ : ∃ W, W = wr := ⟨wr, rfl⟩
      go_wp2_with fail
      go_loopw [22] (fun kv wr => ∃ (k : Nat) (cu : Array Value), k ≤ X.length ∧ kv = .int .i64 k ∧ wr.heap[w.heap.size + 1]? = some (.cells cu 3 (0, 0)) ∧ cu.size = p.fs.length ∧ (∀ j, j ≠ i → cu[j]? = cur[j]?) ∧ cu[i]? = some (.int .i64 (cntF 9 (X.take k))) ∧ Below W0.heap.size W0 wr) (fun kv _ => X.length - (intOf kv).toNat)
      case atStart => exact ⟨0, cur, by omega, rfl, hC.block, hC.size, fun _ _ => rfl, hz0, hBl⟩
      case round =>
        obtain ⟨k, cu, hk, rfl, hbk, hsz, hoth, hme, hBi⟩ := hrel
        have hI4 := hI2.still (still_of_below hBi)
        obtain ⟨xa', xc', he, hkx⟩ := hI4
        obtain ⟨rfl, rfl⟩ : xa' = xa ∧ xc' = xc := by simp at he; exact ⟨he.1.symm, he.2.symm⟩
        clear he
        have hct := cnt_take 9 X k hk
        by_cases hkl : k < X.length
        · obtain ⟨gx, fx, rfl, hA⟩ := hkx k hkl
          have hs := cnt_step (op := 9) hkl
          obtain ⟨x0, x1, x2, x3⟩ := hA
          have hlx := block_lt_of_cell x0
          have hlg := lt_of_block hbk
          clear hkx
          generalize cntF 9 (X.take k) = N at *
          by_cases ho : X[k].o = 9
          · have ho2 : (X[k].o == 9) = true := by simp [ho]
            rw [if_pos ho] at hs
            have HS : Hid (cntF 9 (X.take (k + 1)) = N + 1) := hs
            clear hs ho
            have hba : (wr.alloc (.cells #[.int .i64 X[k].o, .int .i64 X[k].a, .int .i64 X[k].b, .int .i64 X[k].c] 42)).heap[w.heap.size + 1]? = some (.cells cu 3 (0, 0)) := (Below.heap_alloc _ _ _ hlg).trans hbk
            have cc := cell_of_row _ _ i _ _ _ hba
            rw [hme] at cc
            have ff := frozen_of_row _ _ i _ _ hba
            have cc0 := cell_of_row _ _ i _ _ _ hbk
            rw [hme] at cc0
            have ff0 := frozen_of_row _ _ i _ _ hbk
            have hst := heap_setCell_same wr (w.heap.size + 1) i cu 3 (.int .i64 ((N : Int) + 1)) hbk
            have hBs : Below W0.heap.size W0 (wr.setCell ⟨w.heap.size + 1, i, none⟩ (.int .i64 ((N : Int) + 1))) := hBi.setCell (p := ⟨w.heap.size + 1, i, none⟩) (by show W0.heap.size ≤ w.heap.size + 1; omega) _
            go_wp2_with fail
            go_roundw
            case rel =>
              refine ⟨k + 1, cu.setIfInBounds i (.int .i64 ((N : Int) + 1)), by omega, by go_num, (Below.heap_alloc _ _ _ (by simp [World.setCell]; omega)).trans hst, by simp [hsz], fun j hj => by rw [Array.getElem?_setIfInBounds, if_neg (by omega)]; exact hoth j hj, ?_, below_alloc hBs _⟩
              rw [Array.getElem?_setIfInBounds, if_pos rfl, if_pos (by omega), HS.out]
              rfl
            case measure => simp [intOf]; omega
          · have ho2 : (X[k].o == 9) = false := by simp [ho]
            rw [if_neg ho] at hs
            have HS : Hid (cntF 9 (X.take (k + 1)) = N + 0) := hs
            clear hs ho
            go_wp2_with fail
            go_roundw
            case rel => exact ⟨k + 1, cu, by omega, by go_num, (Below.heap_alloc _ _ _ hlg).trans hbk, hsz, hoth, by rw [HS.out]; exact hme, below_alloc hBi _⟩
            case measure => simp [intOf]; omega
        · have hkk : k = X.length := by omega
          have hme2 : Hid (cu[i]? = some (.int .i64 (cntF 9 p.fs[i]))) := by show _ = _; rw [HX.out, hme, hkk, List.take_length]
          go_wp2_with fail
          go_roundw
          case rel =>
            refine ⟨i + 1, cu, by omega, by go_num, ⟨hbk, hsz, fun j h hj => ?_, fun j h1 h2 => ?_⟩, hBi⟩
            · by_cases e : j = i
              · subst e; exact hme2.out
              · rw [hoth j e]; exact hC.told j h (by omega)
            · rw [hoth j (by omega)]; exact hC.rest j (by omega) h2
          case measure => simp [intOf]; omega
    · go_wp2_with fail
      go_ret
      have hfl := forksF_length p.fs
      refine ⟨some ⟨w.heap.size + 1, 0, none⟩, p.fs.length, rfl, ?_, below_then hb hBl⟩
      rw [← hfl]
      refine slN_block hC.block fun k hk => ?_
      rw [hC.told k (by omega) (by omega)]
      simp [forksF]
end Go.Proofs.YtnhogbgnnnniaaaDoor
namespace Go.Proofs.YtnhogbgnnnniaaaDoor
open Go.RowKit
open C2 (In Pr SlF SlI InsAt Tab BoxedP below_alloc below_then still_of_below Still)

def is13 (x : In) : Bool := decide (x.o = 13)
theorem lit2_any (x : In) (w : World) : Calls Tryd.prog 52 #[.agg #[.int .i64 x.o, .int .i64 x.a, .int .i64 x.b, .int .i64 x.c]] w fun e w' => e = .returned (.bool (is13 x)) ∧ Below w.heap.size w w' := by
  unfold is13
  by_cases h : x.o = 13
  · have h2 : (x.o == 13) = true := by simp [h]
    rw [decide_eq_true h]
    clear h
    go_enter Tryd.func52, Tryd.ntmps52
    go_wp2_with fail
    go_ret
    exact ⟨rfl, below_alloc (Below.refl _ _) _⟩
  · have h2 : (x.o == 13) = false := by simp [h]
    rw [decide_eq_false h]
    clear h
    go_enter Tryd.func52, Tryd.ntmps52
    go_wp2_with fail
    go_ret
    exact ⟨rfl, below_alloc (Below.refl _ _) _⟩
def IdxPost (b : Bool) (n : Nat) (w : World) (e : Ending) (w' : World) : Prop := (∃ r : Int, e = .returned (.int .i64 r) ∧ (b = true → 0 ≤ r) ∧ (b = false → r = -1) ∧ r ≤ n) ∧ Below w.heap.size w w'
theorem indexI_any (v : Value) (f : List In) (w : World) (hI : SlI w v f) (hl : f.length ≤ 1000000) :
    Calls Tryd.prog 83 #[v, .func (.func 52) #[] #[]] w fun e w' => IdxPost (f.any is13) f.length w e w' := by
  obtain ⟨ia, ic, rfl, hk⟩ := hI
  go_enter Tryd.func83, Tryd.ntmps83
  go_wp2_with fail
  go_loopw [8] (fun iv wr => ∃ i : Nat, i ≤ f.length ∧ iv = .int .i64 i ∧ (∀ k (h : k < f.length), k < i → is13 f[k] = false) ∧ Below w.heap.size w wr) (fun iv _ => f.length - (intOf iv).toNat)
  case atStart => exact ⟨0, by omega, rfl, fun k _ h => by omega, Below.refl _ _⟩
  case round =>
    obtain ⟨i, hi, rfl, hno, hB⟩ := hrel
    have HNO : Hid (∀ k (h : k < f.length), k < i → is13 f[k] = false) := hno
    clear hno
    by_cases hlt : i < f.length
    · obtain ⟨g, o, rfl, hx⟩ := hk i hlt
      obtain ⟨x0, x1, x2, x3⟩ := hx.still (still_of_below hB)
      clear hk hx
      go_wp2_with fail
      refine (lit2_any f[i] _).mono ?_
      rintro e w3 ⟨rfl, hb3⟩
      generalize hbe : is13 f[i] = b
      have HB : Hid (is13 f[i] = b) := hbe
      clear hbe
      cases b
      · go_wp2_with fail
        go_roundw
        case rel =>
          refine ⟨i + 1, by omega, by go_num, fun k h hk => ?_, below_then hB hb3⟩
          by_cases e : k = i
          · subst e; exact HB.out
          · exact HNO.out k h (by omega)
        case measure => simp [intOf]; omega
      · go_wp2_with fail
        go_ret
        refine ⟨⟨i, rfl, fun _ => by omega, fun h => ?_, by omega⟩, below_then hB hb3⟩
        rw [List.any_eq_false] at h
        exact absurd HB.out (h _ (List.getElem_mem hlt))
    · go_wp2_with fail
      go_ret
      refine ⟨⟨-1, rfl, fun h => ?_, fun _ => rfl, by omega⟩, hB⟩
      rw [List.any_eq_true] at h
      obtain ⟨x, hx, h1⟩ := h
      obtain ⟨k, hk', rfl⟩ := List.getElem_of_mem hx
      rw [HNO.out k hk' (by omega)] at h1
      simp at h1
theorem lit1_any (v : Value) (f : List In) (w : World) (hI : SlI w v f) (hl : f.length ≤ 1000000) :
    Calls Tryd.prog 50 #[v] w fun e w' => e = .returned (.bool (f.any is13)) ∧ Below w.heap.size w w' := by
  have hc : Calls Tryd.prog 51 #[v, .func (.func 52) #[] #[]] w fun e w' => e = .returned (.bool (f.any is13)) ∧ Below w.heap.size w w' := by
    go_enter Tryd.func51, Tryd.ntmps51
    go_wp2_with fail
    refine (indexI_any v f _ hI hl).mono ?_
    rintro e w1 ⟨⟨r, rfl, h1, h2, h3⟩, hb⟩
    generalize hbb : f.any is13 = b at *
    have HBB : Hid (f.any is13 = b) := hbb
    clear hbb
    cases b
    · obtain rfl := h2 rfl
      clear h1 h2 h3
      go_wp2_with fail
      go_ret
      exact ⟨by rw [HBB.out]; rfl, hb⟩
    · have h0 := h1 rfl
      have h4 : decide (0 ≤ r) = true := by simpa using h0
      clear h1 h2 h0 h3
      go_wp2_with fail
      go_ret
      exact ⟨by rw [HBB.out]; rfl, hb⟩
  obtain ⟨ia, ic, rfl, -⟩ := hI
  have HC : Hid (Calls Tryd.prog 51 #[.slice ia f.length ic, .func (.func 52) #[] #[]] w fun e w' => e = .returned (.bool (f.any is13)) ∧ Below w.heap.size w w') := hc
  clear hc
  go_enter Tryd.func50, Tryd.ntmps50
  go_wp2_with fail
  refine HC.out.mono ?_
  rintro e w1 ⟨rfl, hb⟩
  go_wp2_with fail
  go_ret
  exact ⟨rfl, hb⟩
def any13 (f : List In) : Bool := f.any is13
theorem indexF_any (v : Value) (fs : List (List In)) (w : World) (hF : SlF w v fs) (hl : fs.length ≤ 1000000) (hm : ∀ f ∈ fs, f.length ≤ 1000000) :
    Calls Tryd.prog 82 #[v, .func (.func 50) #[] #[]] w fun e w' => IdxPost (fs.any any13) fs.length w e w' := by
  obtain ⟨ia, ic, rfl, hk⟩ := hF
  go_enter Tryd.func82, Tryd.ntmps82
  go_wp2_with fail
  go_loopw [8] (fun iv wr => ∃ i : Nat, i ≤ fs.length ∧ iv = .int .i64 i ∧ (∀ k (h : k < fs.length), k < i → any13 fs[k] = false) ∧ Below w.heap.size w wr) (fun iv _ => fs.length - (intOf iv).toNat)
  case atStart => exact ⟨0, by omega, rfl, fun k _ h => by omega, Below.refl _ _⟩
  case round =>
    obtain ⟨i, hi, rfl, hno, hB⟩ := hrel
    have HNO : Hid (∀ k (h : k < fs.length), k < i → any13 fs[k] = false) := hno
    clear hno
    by_cases hlt : i < fs.length
    · obtain ⟨g, o, u, rfl, hc, hI⟩ := hk i hlt
      have c0 := still_of_below hB _ _ hc
      have hI1 := hI.still (still_of_below hB)
      have hmi := hm _ (List.getElem_mem hlt)
      clear hk hc hI
      have hI0 := hI1
      obtain ⟨xa, xc, rfl, -⟩ := hI0
      go_wp2_with fail
      refine (lit1_any _ fs[i] _ hI1 hmi).mono ?_
      rintro e w3 ⟨rfl, hb3⟩
      have hd : any13 fs[i] = fs[i].any is13 := rfl
      rw [← hd]
      generalize hbe : any13 fs[i] = b
      have HB : Hid (any13 fs[i] = b) := hbe
      clear hbe hd
      cases b
      · go_wp2_with fail
        go_roundw
        case rel =>
          refine ⟨i + 1, by omega, by go_num, fun k h hk => ?_, below_then hB hb3⟩
          by_cases e : k = i
          · subst e; exact HB.out
          · exact HNO.out k h (by omega)
        case measure => simp [intOf]; omega
      · go_wp2_with fail
        go_ret
        refine ⟨⟨i, rfl, fun _ => by omega, fun h => ?_, by omega⟩, below_then hB hb3⟩
        rw [List.any_eq_false] at h
        exact absurd HB.out (h _ (List.getElem_mem hlt))
    · go_wp2_with fail
      go_ret
      refine ⟨⟨-1, rfl, fun h => ?_, fun _ => rfl, by omega⟩, hB⟩
      rw [List.any_eq_true] at h
      obtain ⟨x, hx, h1⟩ := h
      obtain ⟨k, hk', rfl⟩ := List.getElem_of_mem hx
      rw [HNO.out k hk' (by omega)] at h1
      simp at h1
theorem cancels_eq (fs : List (List In)) : cancelsF fs = fs.any any13 := rfl
theorem Cancels_any (p : Pr) (fv : Value) (w : World) (hF : SlF w fv p.fs) (hl : p.fs.length ≤ 1000000) (hm : ∀ f ∈ p.fs, f.length ≤ 1000000) :
    Calls Tryd.prog 21 #[.agg #[fv, .int .i64 p.futs, .int .i64 p.depth, .int .i64 p.fuel]] w fun e w' => e = .returned (.bool (cancelsF p.fs)) ∧ Below w.heap.size w w' := by
  rw [cancels_eq]
  have hc : ∀ (v : Value) (w : World), SlF w v p.fs → Calls Tryd.prog 49 #[v, .func (.func 50) #[] #[]] w fun e w' => e = .returned (.bool (p.fs.any any13)) ∧ Below w.heap.size w w' := by
    intro v w hI
    go_enter Tryd.func49, Tryd.ntmps49
    go_wp2_with fail
    refine (indexF_any v p.fs _ hI hl hm).mono ?_
    rintro e w1 ⟨⟨r, rfl, h1, h2, h3⟩, hb⟩
    clear hI
    generalize hbb : p.fs.any any13 = b at *
    have HBB : Hid (p.fs.any any13 = b) := hbb
    clear hbb
    cases b
    · obtain rfl := h2 rfl
      clear h1 h2 h3
      go_wp2_with fail
      go_ret
      exact ⟨by rw [HBB.out]; rfl, hb⟩
    · have h0 := h1 rfl
      have h4 : decide (0 ≤ r) = true := by simpa using h0
      clear h1 h2 h0 h3
      go_wp2_with fail
      go_ret
      exact ⟨by rw [HBB.out]; rfl, hb⟩
  have HC : Hid (∀ (v : Value) (w : World), SlF w v p.fs → Calls Tryd.prog 49 #[v, .func (.func 50) #[] #[]] w fun e w' => e = .returned (.bool (p.fs.any any13)) ∧ Below w.heap.size w w') := hc
  clear hc
  have hF0 := hF
  obtain ⟨fa, fc, rfl, -⟩ := hF0
  have hB := BoxedP.made hF
  have hb := below_alloc (Below.refl w.heap.size w) (.cells #[.slice fa p.fs.length fc, .int .i64 p.futs, .int .i64 p.depth, .int .i64 p.fuel] 24)
  clear hF
  go_enter Tryd.func21, Tryd.ntmps21
  go_wp2_with fail
  refine (HC.out _ _ hB.fns).mono ?_
  rintro e w1 ⟨rfl, hb1⟩
  go_wp2_with fail
  go_ret
  exact ⟨rfl, below_then hb hb1⟩
end Go.Proofs.YtnhogbgnnnniaaaDoor
