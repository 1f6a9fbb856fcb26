/-
  Helpers: V5Vt, V5SpP.
-/
import Derived.Test.YtpmapdialjdcbaaDoorBun983af14a59ba
import Derived.Test.YtpmapdialjdcbaaDoorBun53d5438622c1
namespace Go.Proofs.YtpmapdialjdcbaaDoor.V5
open Go.RowKit
open C2 (In Pr SlF SlI InsAt Tab BoxedP below_alloc below_then still_of_below Still putE)

theorem fn_bad {nf futs : Int} {f : List In} (h : fnB nf futs f = false) {p : Pr} {i : Nat} (hi : i < p.fs.length) (e : p.fs[i] = f) (h0 : putE p = 0) (h1 : nf = p.fs.length) (h2 : futs = p.futs) : checkF p = 5 := by
  subst e h1 h2
  unfold checkF
  rw [if_pos h0, if_neg]
  rintro ⟨-, ha⟩
  have := List.all_eq_true.1 ha _ (List.getElem_mem hi)
  rw [h] at this
  simp at this
theorem fn_good {p : Pr} (h0 : putE p = 0) (h1 : 0 < p.fs.length) (h : ∀ i (hi : i < p.fs.length), fnB p.fs.length p.futs p.fs[i] = true) : checkF p = 0 := by
  unfold checkF
  rw [if_pos h0, if_pos]
  refine ⟨h1, List.all_eq_true.2 fun f hf => ?_⟩
  obtain ⟨i, hi, rfl⟩ := List.getElem_of_mem hf
  exact h i hi
theorem fn_short {nf futs : Int} {f : List In} (h : f.length = 0) : fnB nf futs f = false := by
  unfold fnB
  rw [decide_eq_false (by omega), Bool.false_and]
theorem fn_last {nf futs : Int} {f : List In} (h7 : ¬ lastOp f = 7) (h15 : ¬ lastOp f = 15) : fnB nf futs f = false := by
  unfold fnB endB
  rw [decide_eq_false h7, decide_eq_false h15]
  simp
theorem fn_right {nf futs : Int} {f : List In} {k : Nat} (hk : k < f.length) (h : rightB nf futs f.length f[k] = false) : fnB nf futs f = false := by
  unfold fnB
  have : f.all (rightB nf futs f.length) = false := by
    rw [List.all_eq_false]
    exact ⟨_, List.getElem_mem hk, by rw [h]; simp⟩
  rw [this]
  simp
theorem fn_all {nf futs : Int} {f : List In} (h0 : 0 < f.length) (he : endB f = true) (h : ∀ k (hk : k < f.length), rightB nf futs f.length f[k] = true) : fnB nf futs f = true := by
  unfold fnB
  rw [decide_eq_true h0, he, List.all_eq_true.2]
  · rfl
  · intro x hx
    obtain ⟨k, hk, rfl⟩ := List.getElem_of_mem hx
    exact h k hk
set_option maxHeartbeats 2000000 in
theorem RCheck_any (p : Pr) (fv : Value) (w : World) (hF : SlF w fv p.fs) (hn : p.fs.length ≤ 1000000) (hm : ∀ f ∈ p.fs, f.length ≤ 1000000) :
    Calls Tryd.prog 25 #[.agg #[fv, .int .i64 p.futs, .int .i64 p.depth, .int .i64 p.fuel]] w fun e w' => e = .returned (.int .i64 (checkF p)) ∧ Below w.heap.size w w' := by
  have hF0 := hF
  obtain ⟨fa, fc, rfl, -⟩ := hF0
  have hB := BoxedP.made hF
  have hb := below_alloc (Below.refl w.heap.size w) (.cells #[.slice fa p.fs.length fc, .int .i64 p.futs, .int .i64 p.depth, .int .i64 p.fuel] 24)
  clear hF
  go_enter Tryd.func25, Tryd.ntmps25
  obtain ⟨c0, c1, c2, c3⟩ := hB.cells
  go_wp2_with fail
  refine (C2.RPut_any p _ _ hB.fns hn hm).mono ?_
  rintro e w1 ⟨rfl, hb1'⟩
  have hB1 := hB.kept hb1'
  have hb1 := below_then hb hb1'
  clear hb1' hB c0 c1 c2 c3 hb
  generalize C2.strB (C2.putT p) = T
  rcases C2.putE_cases p with he | he | he
  case inr.inl =>
    have hf : Hid (checkF p = 1) := (check_put (p := p) (by omega)).trans he
    rw [he]
    go_wp2_with fail
    go_ret
    exact ⟨by rw [hf.out]; rfl, hb1⟩
  case inr.inr =>
    have hf : Hid (checkF p = 2) := (check_put (p := p) (by omega)).trans he
    rw [he]
    go_wp2_with fail
    go_ret
    exact ⟨by rw [hf.out]; rfl, hb1⟩
  rw [he]
  have HE : Hid (putE p = 0) := he
  clear he
  go_wp2_with fail
  go_loopw [5] (fun iv wr => ∃ i : Nat, i ≤ p.fs.length ∧ iv = .int .i64 i ∧ (∀ j (h : j < p.fs.length), j < i → fnB p.fs.length p.futs p.fs[j] = true) ∧ Below w1.heap.size w1 wr) (fun iv _ => p.fs.length - (intOf iv).toNat)
  case atStart => exact ⟨0, by omega, rfl, fun j _ h => by omega, Below.refl _ _⟩
  case round =>
    obtain ⟨i, hi, rfl, hj, hBl⟩ := hrel
    have HJ : Hid (∀ j (h : j < p.fs.length), j < i → fnB p.fs.length p.futs p.fs[j] = true) := hj
    clear hj
    have hB3 := hB1.kept hBl
    obtain ⟨d0, d1, d2, d3⟩ := hB3.cells
    by_cases hlt : i < p.fs.length
    · obtain ⟨fa', fc', he, hfx⟩ := hB3.fns
      obtain ⟨rfl, rfl⟩ : fa' = fa ∧ fc' = fc := by simp at he; exact ⟨he.1.symm, he.2.symm⟩
      clear he
      obtain ⟨g, f, u, rfl, hc, hI⟩ := hfx i hlt
      have hI0 := hI
      obtain ⟨xa, xc, rfl, hkx⟩ := hI0
      have hmi := hm _ (List.getElem_mem hlt)
      clear hfx
      generalize hX : p.fs[i] = X at *
      have BAD : Hid (fnB p.fs.length p.futs X = false → checkF p = 5) := fun h => fn_bad h hlt hX HE.out rfl rfl
      have HX : Hid (p.fs[i] = X) := hX
      clear hX
      have hbl := below_then hb1 hBl
      by_cases h0 : X.length = 0
      · have hbad : Hid (checkF p = 5) := BAD.out (fn_short h0)
        have e0 : ((X.length : Int) == 0) = true := by simp [h0]
        clear hkx
        go_wp2_with fail
        go_ret
        exact ⟨by rw [hbad.out]; rfl, hbl⟩
      have e0 : ((X.length : Int) == 0) = false := by simpa using h0
      obtain ⟨m, hmm⟩ : ∃ m, X.length = m + 1 := ⟨X.length - 1, by omega⟩
      obtain ⟨gx, ox, rfl, hx⟩ := hkx m (by omega)
      have l0 := hx.c0
      have hlo : X[m].o = lastOp X := by rw [lastOp_at (by omega)]; congr 2; omega
      rw [hlo] at l0
      clear hx hlo
      rw [hmm] at hc
      clear e0
      have e0 : ((m : Int) + 1 == 0) = false := by simp; omega
      have hmm1 : m + 1 ≤ 1000000 := by omega
      have HI : Hid (SlI wr (.slice (some ⟨gx, ox, none⟩) X.length xc) X) := hI
      have HMM : Hid (X.length = m + 1) := hmm
      clear hI h0 hmm hmi hkx
      by_cases h7 : lastOp X = 7 ∨ lastOp X = 15
      · have hend : Hid (endB X = true) := by
          show _ = _
          unfold endB
          rcases h7 with h | h <;> simp [h]
        generalize lastOp X = z at *
        obtain ⟨W, rfl⟩ : ∃ W, W = wr := ⟨wr, rfl⟩
        rcases h7 with rfl | rfl
        all_goals
          go_wp2_with fail
          go_loopw [8] (fun kv wr => ∃ k : Nat, k ≤ m + 1 ∧ kv = .int .i64 k ∧ (∀ j (h : j < X.length), j < k → rightB p.fs.length p.futs X.length X[j] = true) ∧ Below W.heap.size W wr) (fun kv _ => m + 1 - (intOf kv).toNat)
          case atStart => exact ⟨0, by omega, rfl, fun j _ h => by omega, Below.refl _ _⟩
          case round =>
            obtain ⟨k, hk, rfl, hr, hBi⟩ := hrel
            have HR : Hid (∀ j (h : j < X.length), j < k → rightB p.fs.length p.futs X.length X[j] = true) := hr
            clear hr
            have st := still_of_below hBi
            obtain ⟨q0, q1, q2, q3⟩ : wr.cell? ⟨w.heap.size, 0, none⟩ = some (.slice (some ⟨g, f, none⟩) p.fs.length fc') ∧ wr.cell? ⟨w.heap.size, 1, none⟩ = some (.int .i64 p.futs) ∧ wr.cell? ⟨w.heap.size, 2, none⟩ = some (.int .i64 p.depth) ∧ wr.cell? ⟨w.heap.size, 3, none⟩ = some (.int .i64 p.fuel) := ⟨st _ _ d0, st _ _ d1, st _ _ d2, st _ _ d3⟩
            by_cases hkl : k < m + 1
            · have hkX : k < X.length := by rw [HMM.out]; exact hkl
              obtain ⟨ya, yc, hye, hyk⟩ := HI.out
              obtain ⟨gy, oy, hya, hA⟩ := hyk k hkX
              obtain ⟨rfl, rfl⟩ : gy = gx ∧ oy = ox := by simp at hye; rw [← hye.1] at hya; simp at hya; exact ⟨hya.1.symm, hya.2.symm⟩
              clear hye hyk hya
              obtain ⟨x0, x1, x2, x3⟩ := hA.still st
              clear hA st
              go_wp2_with fail
              go_region_held3 (fun w' => w'.cell? ⟨w.heap.size, 0, none⟩ = some (.slice (some ⟨g, f, none⟩) p.fs.length fc') ∧ w'.cell? ⟨w.heap.size, 1, none⟩ = some (.int .i64 p.futs) ∧ w'.cell? ⟨w.heap.size, 2, none⟩ = some (.int .i64 p.depth) ∧ w'.cell? ⟨w.heap.size, 3, none⟩ = some (.int .i64 p.fuel) ∧ w'.cell? ⟨gy, oy + k * 4, none⟩ = some (.int .i64 X[k].o) ∧ w'.cell? ⟨gy, oy + k * 4 + 1, none⟩ = some (.int .i64 X[k].a) ∧ w'.cell? ⟨gy, oy + k * 4 + 2, none⟩ = some (.int .i64 X[k].b) ∧ w'.cell? ⟨gy, oy + k * 4 + 3, none⟩ = some (.int .i64 X[k].c)) (first | exact ⟨q0, q1, q2, q3, x0, x1, x2, x3⟩ | exact ⟨q05, q15, q25, q35, x05, x15, x25, x35⟩) (first | (go_at_call 34; refine (rright_any p _ _ ((m : Int) + 1) X[k] _).mono ?_; rintro e w5 ⟨rfl, hb5'⟩; have hb5 : Below wr.heap.size wr w5 := below_then (Below.refl _ _).drew hb5'; have q05 := still_of_below hb5 _ _ q0; have q15 := still_of_below hb5 _ _ q1; have q25 := still_of_below hb5 _ _ q2; have q35 := still_of_below hb5 _ _ q3; have x05 := still_of_below hb5 _ _ x0; have x15 := still_of_below hb5 _ _ x1; have x25 := still_of_below hb5 _ _ x2; have x35 := still_of_below hb5 _ _ x3))
              generalize hrb : rightB p.fs.length p.futs ((m : Int) + 1) X[k] = rb at *
              have HRB : Hid (rightB p.fs.length p.futs X.length X[k] = rb) := by show _ = _; rw [HMM.out]; exact hrb
              clear hrb
              cases rb
              · have hbad : Hid (checkF p = 5) := BAD.out (fn_right hkX HRB.out)
                go_wp2_with fail
                go_ret
                exact ⟨by rw [hbad.out]; rfl, below_then hbl (below_then hBi hb5)⟩
              · go_wp2_with fail
                go_roundw
                case rel =>
                  refine ⟨k + 1, by omega, by go_num, fun j h hj => ?_, below_then hBi hb5⟩
                  by_cases e : j = k
                  · subst e; exact HRB.out
                  · exact HR.out j h (by omega)
                case measure => simp [intOf]; omega
            · go_wp2_with fail
              go_roundw
              case rel =>
                refine ⟨i + 1, by omega, by go_num, fun j h hj => ?_, below_then hBl hBi⟩
                by_cases e : j = i
                · subst e; rw [HX.out]; exact fn_all (by rw [HMM.out]; omega) hend.out fun k hk => HR.out k hk (by have := HMM.out; omega)
                · exact HJ.out j h (by omega)
              case measure => simp [intOf]; omega
      · have h7a : (lastOp X != 7) = true := by simp; omega
        have h15a : (lastOp X != 15) = true := by simp; omega
        have hbad : Hid (checkF p = 5) := BAD.out (fn_last (by omega) (by omega))
        clear h7
        generalize lastOp X = z at *
        go_wp2_with fail
        go_ret
        exact ⟨by rw [hbad.out]; rfl, hbl⟩
    · by_cases h0 : p.fs.length = 0
      · have hbad : Hid (checkF p = 5) := check_none HE.out h0
        have e0 : ((p.fs.length : Int) == 0) = true := by simp [h0]
        go_wp2_with fail
        go_ret
        exact ⟨by rw [hbad.out]; rfl, below_then hb1 hBl⟩
      · have hgood : Hid (checkF p = 0) := fn_good HE.out (by omega) fun j hj => HJ.out j hj (by omega)
        have e0 : ((p.fs.length : Int) == 0) = false := by simpa using h0
        clear h0
        go_wp2_with fail
        go_ret
        exact ⟨by rw [hgood.out]; rfl, below_then hb1 hBl⟩
end Go.Proofs.YtpmapdialjdcbaaDoor.V5
namespace Go.Proofs.YtpmapdialjdcbaaDoor.V5
open Go.RowKit
open C2 (In Pr putE OkPr okFn okIns shapeI shapeB Good)

theorem ok_right {nf futs n : Int} {x : In} (h : okIns nf futs n x) : rightB nf futs n x = true := by
  rw [right_iff]
  unfold okIns at h
  rcases h with h | h | h | h | h | h | h | h | h | h | h <;> refine ⟨?_, ?_, ?_, ?_, ?_⟩ <;> intro e <;> omega
theorem lastOp_of {f : List In} {x : In} (h : f.getLast? = some x) : lastOp f = x.o := by unfold lastOp; rw [h]
theorem ok_check {p : Pr} (h : OkPr p) : checkF p = 0 := by
  refine fn_good h.good.code (by have := h.some; omega) fun i hi => ?_
  have hf := h.fns _ (List.getElem_mem hi)
  obtain ⟨h2, h11, hx, a, ha, hb, hl⟩ := hf
  refine fn_all (by omega) ?_ fun k hk => ok_right (hx _ (List.getElem_mem hk))
  unfold endB
  rw [lastOp_of hl]
  rfl
theorem good_set {p : Pr} (h : OkPr p) {i k : Nat} (hi : i < p.fs.length) {x : In} (hx : shapeI x = true) : putE ⟨p.fs.set i (p.fs[i].set k x), p.futs, p.depth, p.fuel⟩ = 0 := by
  have hg := h.good
  refine Good.code ⟨by simp; exact hg.few, fun f hf => ?_, fun f hf => ?_, hg.futs, hg.depth, hg.fuel⟩
  · rcases List.mem_or_eq_of_mem_set hf with hf | rfl
    · exact hg.small f hf
    · simp; exact hg.small _ (List.getElem_mem hi)
  · rcases List.mem_or_eq_of_mem_set hf with hf | rfl
    · exact hg.shapes f hf
    · rw [List.all_eq_true]
      intro y hy
      rcases List.mem_or_eq_of_mem_set hy with hy | rfl
      · exact List.all_eq_true.1 (hg.shapes _ (List.getElem_mem hi)) y hy
      · exact hx
theorem spoil {p : Pr} (h : OkPr p) {i k : Nat} (hi : i < p.fs.length) {x : In} (hx : shapeI x = true) (hb : fnB p.fs.length p.futs (p.fs[i].set k x) = false) : checkF ⟨p.fs.set i (p.fs[i].set k x), p.futs, p.depth, p.fuel⟩ = 5 :=
  fn_bad (p := ⟨p.fs.set i (p.fs[i].set k x), p.futs, p.depth, p.fuel⟩) (i := i) hb (by simpa using hi) (by simp) (good_set h hi hx) (by simp) rfl
theorem set_right {nf futs : Int} {f : List In} {k : Nat} {x : In} (hk : k < f.length) (h : rightB nf futs f.length x = false) : fnB nf futs (f.set k x) = false :=
  fn_right (k := k) (by simpa using hk) (by simpa using h)
theorem shape_bd {o a b c : Int} (h1 : 1 ≤ o) (h2 : o ≤ 15) (ho : ¬ o = 1) (ha : 0 ≤ a ∧ a ≤ C2.lastOf o 0) (hb : 0 ≤ b ∧ b ≤ C2.lastOf o 1) (hc : 0 ≤ c ∧ c ≤ C2.lastOf o 2) : shapeI ⟨o, a, b, c⟩ = true := by
  obtain ⟨g0, g1, g2⟩ := C2.last0 o h1 h2 ho
  exact C2.shape_mk h1 h2 (by rw [g0]; exact ha) (by rw [g1]; exact hb) (by rw [g2]; exact hc)
/-- the last one yields -/
theorem sp0 {p : Pr} (h : OkPr p) {i m : Nat} (hi : i < p.fs.length) (hm : p.fs[i].length = m + 1) : checkF ⟨p.fs.set i (p.fs[i].set m ⟨14, 0, 0, 0⟩), p.futs, p.depth, p.fuel⟩ = 5 := by
  refine spoil h hi (by decide +kernel) ?_
  have e : lastOp (p.fs[i].set m ⟨14, 0, 0, 0⟩) = 14 := by
    rw [lastOp_at (by simp; omega)]
    simp [hm]
  exact fn_last (by rw [e]; decide) (by rw [e]; decide)
theorem last7 : C2.lastOf 7 0 = 39 ∧ C2.lastOf 7 1 = 0 ∧ C2.lastOf 7 2 = 0 ∧ C2.lastOf 8 0 = 7 ∧ C2.lastOf 8 1 = 39 ∧ C2.lastOf 8 2 = 0 ∧ C2.lastOf 9 0 = 3 ∧ C2.lastOf 9 1 = 11 ∧ C2.lastOf 9 2 = 7 ∧ C2.lastOf 11 0 = 15 ∧ C2.lastOf 11 1 = 7 ∧ C2.lastOf 11 2 = 0 := by decide +kernel
theorem sp1 {p : Pr} (h : OkPr p) {i : Nat} (hi : i < p.fs.length) : checkF ⟨p.fs.set i (p.fs[i].set 0 ⟨7, p.fs[i].length, 0, 0⟩), p.futs, p.depth, p.fuel⟩ = 5 := by
  have hf := h.fns _ (List.getElem_mem hi)
  obtain ⟨l0, l1, l2, -⟩ := last7
  have h1 := hf.1
  have h2 := hf.2.1
  refine spoil h hi (shape_bd (by decide) (by decide) (by decide) (by rw [l0]; omega) (by rw [l1]; omega) (by rw [l2]; omega)) (set_right (by omega) ?_)
  simp [rightB]
theorem sp2 {p : Pr} (h : OkPr p) {i : Nat} (hi : i < p.fs.length) : checkF ⟨p.fs.set i (p.fs[i].set 0 ⟨8, 0, p.fs[i].length, 0⟩), p.futs, p.depth, p.fuel⟩ = 5 := by
  have hf := h.fns _ (List.getElem_mem hi)
  obtain ⟨-, -, -, l0, l1, l2, -⟩ := last7
  have h1 := hf.1
  have h2 := hf.2.1
  refine spoil h hi (shape_bd (by decide) (by decide) (by decide) (by rw [l0]; omega) (by rw [l1]; omega) (by rw [l2]; omega)) (set_right (by omega) ?_)
  simp [rightB]
theorem sp3 {p : Pr} (h : OkPr p) {i : Nat} (hi : i < p.fs.length) : checkF ⟨p.fs.set i (p.fs[i].set 0 ⟨9, 0, p.fs.length, 0⟩), p.futs, p.depth, p.fuel⟩ = 5 := by
  have hf := h.fns _ (List.getElem_mem hi)
  obtain ⟨-, -, -, -, -, -, l0, l1, l2, -⟩ := last7
  have h1 := hf.1
  have h2 := h.few
  refine spoil h hi (shape_bd (by decide) (by decide) (by decide) (by rw [l0]; omega) (by rw [l1]; omega) (by rw [l2]; omega)) (set_right (by omega) ?_)
  simp [rightB]
theorem sp4 {p : Pr} (h : OkPr p) {i : Nat} (hi : i < p.fs.length) : checkF ⟨p.fs.set i (p.fs[i].set 0 ⟨11, p.futs, 0, 0⟩), p.futs, p.depth, p.fuel⟩ = 5 := by
  have hf := h.fns _ (List.getElem_mem hi)
  obtain ⟨-, -, -, -, -, -, -, -, -, l0, l1, l2⟩ := last7
  have h1 := hf.1
  have h2 := h.futs
  refine spoil h hi (shape_bd (by decide) (by decide) (by decide) (by rw [l0]; omega) (by rw [l1]; omega) (by rw [l2]; omega)) (set_right (by omega) ?_)
  simp [rightB]
theorem put_unsound {p : Pr} (h1 : C2.bigB p.fs = false) (h2 : C2.soundB p = false) : checkF p = 1 := by
  have e : putE p = 1 := by unfold C2.putE; simp [h1, h2]
  rw [check_put (by omega), e]
theorem sp5 {p : Pr} (h : OkPr p) {i k : Nat} (hi : i < p.fs.length) (hk : k < p.fs[i].length) (a b c : Int) : checkF ⟨p.fs.set i (p.fs[i].set k ⟨16, a, b, c⟩), p.futs, p.depth, p.fuel⟩ = 1 := by
  have hg := h.good
  refine put_unsound (C2.big_not (by simp; have := hg.few; omega) fun j hj => ?_) ?_
  · have hj' : j < p.fs.length := by simpa using hj
    have hs := hg.small _ (List.getElem_mem hj')
    by_cases e : i = j
    · subst e; simp; omega
    · simp [e]; omega
  · have hn : ((p.fs.set i (p.fs[i].set k ⟨16, a, b, c⟩)).all fun f => f.all shapeI) = false := by
      rw [List.all_eq_false]
      refine ⟨p.fs[i].set k ⟨16, a, b, c⟩, List.mem_set hi _, ?_⟩
      rw [Bool.not_eq_true, List.all_eq_false]
      refine ⟨⟨16, a, b, c⟩, List.mem_set hk _, ?_⟩
      simp [shapeI, shapeB, C2.inB]
    unfold C2.soundB
    rw [hn, Bool.false_and]
theorem sp6 {p : Pr} (h : OkPr p) : checkF ⟨p.fs ++ [[]], p.futs, p.depth, p.fuel⟩ = 5 := by
  have hg := h.good
  have hgood : putE ⟨p.fs ++ [[]], p.futs, p.depth, p.fuel⟩ = 0 := by
    refine Good.code ⟨by simp; have := h.few; omega, fun f hf => ?_, fun f hf => ?_, hg.futs, hg.depth, hg.fuel⟩
    · simp at hf
      rcases hf with hf | rfl
      · exact hg.small f hf
      · simp
    · simp at hf
      rcases hf with hf | rfl
      · exact hg.shapes f hf
      · rfl
  exact fn_bad (p := ⟨p.fs ++ [[]], p.futs, p.depth, p.fuel⟩) (i := p.fs.length) (nf := (p.fs ++ [[]]).length) (futs := p.futs) (f := []) (fn_short rfl) (by simp) (by simp) hgood rfl rfl
theorem sp7 {p : Pr} (h : OkPr p) : checkF ⟨p.fs, p.futs, p.depth, 0⟩ = 1 := by
  have hg := h.good
  refine put_unsound (C2.big_not (by have := hg.few; show ¬ 12 < p.fs.length; omega) fun j hj => by have := hg.small _ (List.getElem_mem hj); omega) ?_
  unfold C2.soundB
  simp [C2.inB]
end Go.Proofs.YtpmapdialjdcbaaDoor.V5
