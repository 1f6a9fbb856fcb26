/-
  Parse: what it answers at every text.
-/
import Derived.Test.YtdpagipbaddnfaaDoorProg4
import Derived.Test.YtdpagipbaddnfaaDoorLexT
namespace Go.Proofs.YtdpagipbaddnfaaDoor
open Go.RowKit L3
open C2 (In Pr bigB putE SlF Tab)

/-- what Parse answers at the bytes l -/
def ParsePost (l : List UInt8) (w : World) (e : Ending) (w' : World) : Prop :=
  ∃ fa fl fc, e = .returned (.tuple #[.agg #[.slice fa fl fc, .int .i64 (parseF l).1.futs, .int .i64 (parseF l).1.depth, .int .i64 (parseF l).1.fuel], .int .i64 (parseF l).2.1, .int .i64 (parseF l).2.2]) ∧ SlF w' (.slice fa fl fc) (parseF l).1.fs ∧ Below w.heap.size w w'
theorem slF_nil (w : World) : SlF w (.slice none 0 0) [] := ⟨none, 0, rfl, fun k hk => by simp at hk⟩
theorem parse_none {l : List UInt8} {w w' : World} {x y : Int} (h : parseF l = (pr0, x, y)) (hb : Below w.heap.size w w') : ParsePost l w (.returned (.tuple #[.agg #[.slice none 0 0, .int .i64 0, .int .i64 0, .int .i64 0], .int .i64 x, .int .i64 y])) w' := by
  unfold ParsePost
  rw [h]
  exact ⟨none, 0, 0, rfl, slF_nil _, hb⟩
theorem parse_some {l : List UInt8} {w w' : World} {p : Pr} {fa : Option Addr} {fl fc : Nat} (h : parseF l = (p, 0, 0)) (hF : SlF w' (.slice fa fl fc) p.fs) (hb : Below w.heap.size w w') : ParsePost l w (.returned (.tuple #[.agg #[.slice fa fl fc, .int .i64 p.futs, .int .i64 p.depth, .int .i64 p.fuel], .int .i64 0, .int .i64 0])) w' := by
  unfold ParsePost
  rw [h]
  exact ⟨fa, fl, fc, rfl, hF, hb⟩
theorem stmF_pos : ∀ (T cur : List Tk) (all : List Sm) (last : Int) (x : Int), 0 ≤ last → (∀ t ∈ T, 1 ≤ t.l) → stmF cur all last T = .inl x → 1 ≤ x
  | [], cur, all, last, x, h0, _, hf => by
    unfold stmF at hf
    split at hf
    · simp only [Sum.inl.injEq] at hf; omega
    · simp at hf
  | t :: r, cur, all, last, x, h0, hl, hf => by
    have h1 := hl t (by simp)
    have h2 : ∀ u ∈ r, 1 ≤ u.l := fun u hu => hl u (by simp [hu])
    unfold stmF at hf
    split at hf
    · exact stmF_pos r _ all last x h0 h2 hf
    · split at hf
      · simp only [Sum.inl.injEq] at hf; omega
      · split at hf
        · exact stmF_pos r _ _ _ x (by omega) h2 hf
        · simp only [Sum.inl.injEq] at hf; omega
theorem stmF_cnt : ∀ (T cur : List Tk) (all : List Sm) (last : Int) (out : List Sm), stmF cur all last T = .inr out → out.length ≤ all.length + T.length
  | [], cur, all, last, out, hf => by
    unfold stmF at hf
    split at hf
    · simp at hf
    · simp only [Sum.inr.injEq] at hf; subst hf; simp
  | t :: r, cur, all, last, out, hf => by
    unfold stmF at hf
    split at hf
    · have := stmF_cnt r _ all last out hf; simp; omega
    · split at hf
      · simp at hf
      · split at hf
        · have := stmF_cnt r _ _ _ out hf; simp at this ⊢; omega
        · simp at hf
theorem putE_big {p : Pr} : putE p = 2 ↔ bigB p.fs = true := by
  unfold putE
  constructor
  · intro h
    split at h
    · assumption
    · split at h <;> simp at h
  · intro h
    rw [if_pos h]
def RES : Value := .agg #[.slice none 0 0, .int .i64 0, .int .i64 0, .int .i64 0]
set_option maxRecDepth 4000 in
set_option maxHeartbeats 1000000 in
theorem Parse_any (l : List UInt8) (w : World) (hT : Tab w) (hF : FTab w) : Calls Tryd.prog 10 #[.string (strB l)] w fun e w' => ParsePost l w e w' := by
  have hA := All_c (l := l) (s := strB l) rfl (w.alloc (.cells #[.slice none 0 0, .int .i64 0, .int .i64 0, .int .i64 0] 24))
  have hT1 := hT.below (below_one w (.cells #[.slice none 0 0, .int .i64 0, .int .i64 0, .int .i64 0] 24))
  have hF1 := hF.below (below_one w (.cells #[.slice none 0 0, .int .i64 0, .int .i64 0, .int .i64 0] 24))
  have hgd := (lexF_good l).1
  have htk := lexF_toks l
  have hln := lexF_length l
  have hP : ∀ (x : Int) (y : Int) (T : List Tk), lexF l = (T, x, y) → parseF l = if y ≠ 0 then (pr0, x, y) else match stmF [] [] 0 T with
    | .inl x => (pr0, x, 3)
    | .inr all => if bigB (progF all).fs = true then (pr0, 0, 2) else if outF all ≠ 0 then (pr0, outF all, 3) else (progF all, 0, 0) := fun x y T h => by
    unfold parseF
    rw [h]
    rfl
  obtain ⟨T, x, y, hL⟩ : ∃ T x y, lexF l = (T, x, y) := ⟨_, _, _, rfl⟩
  have hPP := hP x y T hL
  have hA2 : Calls Tryd.prog 20 #[.string (strB l)] (w.alloc (.cells #[.slice none 0 0, .int .i64 0, .int .i64 0, .int .i64 0] 24)) fun e w' => ∃ ta tc, e = .returned (.tuple #[.slice ta T.length tc, .int .i64 x, .int .i64 y]) ∧ SlT w' (.slice ta T.length tc) T ∧ Below (w.alloc (.cells #[.slice none 0 0, .int .i64 0, .int .i64 0, .int .i64 0] 24)).heap.size (w.alloc (.cells #[.slice none 0 0, .int .i64 0, .int .i64 0, .int .i64 0] 24)) w' ∧ T.length ≤ tc ∧ tc ≤ maxLen := by
    refine hA.mono ?_
    rintro e w' ⟨ta, tc, h1, h2, h3, h4, h5⟩
    rw [hL] at h1 h2 h4
    exact ⟨ta, tc, h1, h2, h3, h4, h5⟩
  rw [hL] at hgd htk hln
  simp only at hgd htk hln
  have HPP : Hid (parseF l = _) := hPP
  clear hA hP hL hPP
  go_enter Tryd.func10, Tryd.ntmps10
  go_wp2_with fail
  refine hA2.mono ?_
  rintro e w1 ⟨ta, tc, rfl, hS, hb1, htc, htm⟩
  have hbw : Below w.heap.size w w1 := below_then (below_one _ _) hb1
  have hres : w1.heap[w.heap.size]? = some (.cells #[.slice none 0 0, .int .i64 0, .int .i64 0, .int .i64 0] 24 (0, 0)) := (hb1.block _ (by simp)).trans (heap_alloc_new _ _)
  have o0 := cell_of_row _ _ 0 _ _ _ hres
  have o1 := cell_of_row _ _ 1 _ _ _ hres
  have o2 := cell_of_row _ _ 2 _ _ _ hres
  have o3 := cell_of_row _ _ 3 _ _ _ hres
  have f0 := frozen_of_row _ _ 0 _ _ hres
  have f1 := frozen_of_row _ _ 1 _ _ hres
  have f2 := frozen_of_row _ _ 2 _ _ hres
  have f3 := frozen_of_row _ _ 3 _ _ hres
  simp at o0 o1 o2 o3
  by_cases hy : y = 0
  · subst hy
    have hst := statements_any T ta tc w1 hS htc (by unfold maxLen at htm; omega) (hF1.below hb1) hln hgd htk
    have hT2 := hT1.below hb1
    have hp0 := HPP.out
    rw [if_neg (by simp)] at hp0
    have HP0 : Hid (parseF l = _) := hp0
    clear hp0 HPP o0 o1 o2 o3 f0 f1 f2 f3 hT1 hF1 hS htc htm
    go_wp2_with fail
    refine hst.mono ?_
    rintro e w2 ⟨hb2, hcase⟩
    have hbw2 : Below w.heap.size w w2 := below_then hbw hb2
    have hresa : w2.heap[w.heap.size]? = some (.cells #[.slice none 0 0, .int .i64 0, .int .i64 0, .int .i64 0] 24 (0, 0)) := (hb2.block _ (lt_of_block hres)).trans hres
    have o0a := cell_of_row _ _ 0 _ _ _ hresa
    have o1a := cell_of_row _ _ 1 _ _ _ hresa
    have o2a := cell_of_row _ _ 2 _ _ _ hresa
    have o3a := cell_of_row _ _ 3 _ _ _ hresa
    have f0a := frozen_of_row _ _ 0 _ _ hresa
    have f1a := frozen_of_row _ _ 1 _ _ hresa
    have f2a := frozen_of_row _ _ 2 _ _ hresa
    have f3a := frozen_of_row _ _ 3 _ _ hresa
    simp at o0a o1a o2a o3a
    rcases hcase with ⟨z, hs, rfl⟩ | ⟨all, sa, sc, hs, rfl, hSS⟩
    · have hz := stmF_pos T [] [] 0 z (by omega) (fun t ht => (htk t ht).2.1) hs
      have e1 : (z != 0) = true := by simp; omega
      have HP2 : Hid (ParsePost l w (.returned (.tuple #[.agg #[.slice none 0 0, .int .i64 0, .int .i64 0, .int .i64 0], .int .i64 z, .int .i64 3])) ((((w2.setCell ⟨w.heap.size, 0, none⟩ (.slice none 0 0)).setCell ⟨w.heap.size, 1, none⟩ (.int .i64 0)).setCell ⟨w.heap.size, 2, none⟩ (.int .i64 0)).setCell ⟨w.heap.size, 3, none⟩ (.int .i64 0))) := parse_none (by rw [HP0.out, hs]) ((((hbw2.setCell (by simp) _).setCell (by simp) _).setCell (by simp) _).setCell (by simp) _)
      clear hst HP0 hs hb1 hb2 hbw hbw2 hres hresa hz
      go_wp2_with fail
      exact bodyPost_ret (v := .tuple #[.agg #[.slice none 0 0, .int .i64 0, .int .i64 0, .int .i64 0], .int .i64 z, .int .i64 3]) (by simp [results, Tryd.results10, go_sem, o0a, o1a, o2a, o3a]) rfl HP2.out
    · obtain ⟨hoks, h3⟩ := stmF_ok T [] [] 0 all oks_nil hs
      have hcnt := stmF_cnt T [] [] 0 all hs
      simp at hcnt
      obtain ⟨hbd1, hbd2⟩ := progF_bd all
      have hpg := program_any all sa sc w2 hSS hoks (by omega)
      have hp1 := HP0.out
      rw [hs] at hp1
      simp only at hp1
      obtain ⟨p, hpp⟩ : ∃ p, progF all = p := ⟨_, rfl⟩
      unfold PgPost at hpg
      rw [hpp] at hp1 hbd1 hbd2 hpg
      have HP1 : Hid (parseF l = _) := hp1
      clear hst HP0 hs hp1 hpp
      have hT3 := hT2.below hb2
      go_wp2_with fail
      refine hpg.mono ?_
      rintro e w3 ⟨fa, fl, fc, vals, rfl, hFn3, hb3⟩
      have hF3 := hFn3.slF
      have hF4 := C2.SlF.kept hF3 (below_one w3 (.cells #[.slice fa fl fc, .int .i64 p.futs, .int .i64 p.depth, .int .i64 p.fuel] 24))
      have hT4 := (hT3.below hb3).below (below_one w3 (.cells #[.slice fa fl fc, .int .i64 p.futs, .int .i64 p.depth, .int .i64 p.fuel] 24))
      have hput := C2.Put_any p (.slice fa fl fc) (w3.alloc (.cells #[.slice fa fl fc, .int .i64 p.futs, .int .i64 p.depth, .int .i64 p.fuel] 24)) hT4 hF4 (by omega) (fun f hf => by have := hbd2 f hf; omega)
      obtain ⟨S, hSd⟩ : ∃ S, C2.strB (C2.putT p) = S := ⟨_, rfl⟩
      obtain ⟨q, hq⟩ : ∃ q, putE p = q := ⟨_, rfl⟩
      have hqb := putE_big (p := p)
      rw [hSd, hq] at hput
      rw [hq] at hqb
      have HQB : Hid (q = 2 ↔ bigB p.fs = true) := hqb
      clear hSd hq hqb o0a o1a o2a o3a f0a f1a f2a f3a hpg
      go_wp2_with fail
      refine hput.mono ?_
      rintro e w4 ⟨rfl, hb4⟩
      have hb34 : Below w2.heap.size w2 w4 := below_then (below_then hb3 (below_one _ _)) hb4
      have hbw4 : Below w.heap.size w w4 := below_then hbw2 hb34
      have hresb : w4.heap[w.heap.size]? = some (.cells #[.slice none 0 0, .int .i64 0, .int .i64 0, .int .i64 0] 24 (0, 0)) := (hb34.block _ (lt_of_block hresa)).trans hresa
      have o0b := cell_of_row _ _ 0 _ _ _ hresb
      have o1b := cell_of_row _ _ 1 _ _ _ hresb
      have o2b := cell_of_row _ _ 2 _ _ _ hresb
      have o3b := cell_of_row _ _ 3 _ _ _ hresb
      have f0b := frozen_of_row _ _ 0 _ _ hresb
      have f1b := frozen_of_row _ _ 1 _ _ hresb
      have f2b := frozen_of_row _ _ 2 _ _ hresb
      have f3b := frozen_of_row _ _ 3 _ _ hresb
      simp at o0b o1b o2b o3b
      by_cases hq2 : q = 2
      · subst hq2
        have HP2 : Hid (ParsePost l w (.returned (.tuple #[.agg #[.slice none 0 0, .int .i64 0, .int .i64 0, .int .i64 0], .int .i64 0, .int .i64 2])) ((((w4.setCell ⟨w.heap.size, 0, none⟩ (.slice none 0 0)).setCell ⟨w.heap.size, 1, none⟩ (.int .i64 0)).setCell ⟨w.heap.size, 2, none⟩ (.int .i64 0)).setCell ⟨w.heap.size, 3, none⟩ (.int .i64 0))) := parse_none (by rw [HP1.out, if_pos (HQB.out.1 rfl)]) ((((hbw4.setCell (by simp) _).setCell (by simp) _).setCell (by simp) _).setCell (by simp) _)
        clear hput HP1 HQB hb1 hb2 hbw hbw2 hres hresa hresb hb34 hbw4 hb4 hb3
        go_wp2_with fail
        exact bodyPost_ret (v := .tuple #[.agg #[.slice none 0 0, .int .i64 0, .int .i64 0, .int .i64 0], .int .i64 0, .int .i64 2]) (by simp [results, Tryd.results10, go_sem, o0b, o1b, o2b, o3b]) rfl HP2.out
      · have e2 : (q == 2) = false := by simpa using hq2
        have hnb : ¬ bigB p.fs = true := fun h => hq2 (HQB.out.2 h)
        have hfo := firstOut_any all sa sc w4 (hT3.below hb34) (hSS.kept hb34) hoks (by omega)
        have hp2 := HP1.out
        rw [if_neg hnb] at hp2
        obtain ⟨oo, hoo⟩ : ∃ x, outF all = x := ⟨_, rfl⟩
        rw [hoo] at hfo hp2
        have HP3 : Hid (parseF l = _) := hp2
        have hbox4 : w4.heap[w3.heap.size]? = some (.cells #[.slice fa fl fc, .int .i64 p.futs, .int .i64 p.depth, .int .i64 p.fuel] 24 (0, 0)) := (hb4.block _ (by simp)).trans (heap_alloc_new _ _)
        clear hput HP1 HQB hp2 hoo o0b o1b o2b o3b f0b f1b f2b f3b
        go_wp2_with fail
        refine hfo.mono ?_
        rintro e w5 ⟨rfl, hb5⟩
        have hbw5 : Below w.heap.size w w5 := below_then hbw4 hb5
        have hresc : w5.heap[w.heap.size]? = some (.cells #[.slice none 0 0, .int .i64 0, .int .i64 0, .int .i64 0] 24 (0, 0)) := (hb5.block _ (lt_of_block hresb)).trans hresb
        have o0c := cell_of_row _ _ 0 _ _ _ hresc
        have o1c := cell_of_row _ _ 1 _ _ _ hresc
        have o2c := cell_of_row _ _ 2 _ _ _ hresc
        have o3c := cell_of_row _ _ 3 _ _ _ hresc
        have f0c := frozen_of_row _ _ 0 _ _ hresc
        have f1c := frozen_of_row _ _ 1 _ _ hresc
        have f2c := frozen_of_row _ _ 2 _ _ hresc
        have f3c := frozen_of_row _ _ 3 _ _ hresc
        simp at o0c o1c o2c o3c
        by_cases ho0 : oo = 0
        · subst ho0
          have hbox5 := (hb5.block _ (lt_of_block hbox4)).trans hbox4
          have x0 := cell_of_row _ _ 0 _ _ _ hbox5
          have x1 := cell_of_row _ _ 1 _ _ _ hbox5
          have x2 := cell_of_row _ _ 2 _ _ _ hbox5
          have x3 := cell_of_row _ _ 3 _ _ _ hbox5
          simp at x0 x1 x2 x3
          have hwl := lt_of_block hres
          have hs3 := hb3.size
          have hs2 := hb2.size
          have hF7 : SlF ((((w5.setCell ⟨w.heap.size, 0, none⟩ (.slice fa fl fc)).setCell ⟨w.heap.size, 1, none⟩ (.int .i64 p.futs)).setCell ⟨w.heap.size, 2, none⟩ (.int .i64 p.depth)).setCell ⟨w.heap.size, 3, none⟩ (.int .i64 p.fuel)) (.slice fa fl fc) p.fs := by
            refine ((((hFn3.kept (below_one _ _)).kept hb4).kept hb5).far fun g h1 h2 => ?_).slF
            rw [Below.heap_setCell _ _ _ _ (by show g ≠ w.heap.size; omega), Below.heap_setCell _ _ _ _ (by show g ≠ w.heap.size; omega), Below.heap_setCell _ _ _ _ (by show g ≠ w.heap.size; omega), Below.heap_setCell _ _ _ _ (by show g ≠ w.heap.size; omega)]
          have HP2 : Hid (ParsePost l w (.returned (.tuple #[.agg #[.slice fa fl fc, .int .i64 p.futs, .int .i64 p.depth, .int .i64 p.fuel], .int .i64 0, .int .i64 0])) ((((w5.setCell ⟨w.heap.size, 0, none⟩ (.slice fa fl fc)).setCell ⟨w.heap.size, 1, none⟩ (.int .i64 p.futs)).setCell ⟨w.heap.size, 2, none⟩ (.int .i64 p.depth)).setCell ⟨w.heap.size, 3, none⟩ (.int .i64 p.fuel))) := parse_some (by rw [HP3.out]; simp) hF7 ((((hbw5.setCell (by simp) _).setCell (by simp) _).setCell (by simp) _).setCell (by simp) _)
          clear hfo HP3 hb1 hb2 hbw hbw2 hres hresa hresb hresc hb34 hbw4 hb4 hb3 hb5 hbw5 hbox4 hbox5
          go_wp2_with fail
          exact bodyPost_ret (v := .tuple #[.agg #[.slice fa fl fc, .int .i64 p.futs, .int .i64 p.depth, .int .i64 p.fuel], .int .i64 0, .int .i64 0]) (by simp [results, Tryd.results10, go_sem, o0c, o1c, o2c, o3c]) rfl HP2.out
        · have e3 : (oo != 0) = true := by simpa using ho0
          have HP2 : Hid (ParsePost l w (.returned (.tuple #[.agg #[.slice none 0 0, .int .i64 0, .int .i64 0, .int .i64 0], .int .i64 oo, .int .i64 3])) ((((w5.setCell ⟨w.heap.size, 0, none⟩ (.slice none 0 0)).setCell ⟨w.heap.size, 1, none⟩ (.int .i64 0)).setCell ⟨w.heap.size, 2, none⟩ (.int .i64 0)).setCell ⟨w.heap.size, 3, none⟩ (.int .i64 0))) := parse_none (by rw [HP3.out, if_pos ho0]) ((((hbw5.setCell (by simp) _).setCell (by simp) _).setCell (by simp) _).setCell (by simp) _)
          clear hfo HP3 hb1 hb2 hbw hbw2 hres hresa hresb hresc hb34 hbw4 hb4 hb3 hb5 hbw5 hbox4
          go_wp2_with fail
          exact bodyPost_ret (v := .tuple #[.agg #[.slice none 0 0, .int .i64 0, .int .i64 0, .int .i64 0], .int .i64 oo, .int .i64 3]) (by simp [results, Tryd.results10, go_sem, o0c, o1c, o2c, o3c]) rfl HP2.out
  · have e1 : (y != 0) = true := by simpa using hy
    have hp : parseF l = (pr0, x, y) := by rw [HPP.out, if_pos hy]
    have HP := fun (W : World) (hb : Below w.heap.size w W) => parse_none (w' := W) hp hb
    have HP2 : Hid (ParsePost l w (.returned (.tuple #[.agg #[.slice none 0 0, .int .i64 0, .int .i64 0, .int .i64 0], .int .i64 x, .int .i64 y])) ((((w1.setCell ⟨w.heap.size, 0, none⟩ (.slice none 0 0)).setCell ⟨w.heap.size, 1, none⟩ (.int .i64 0)).setCell ⟨w.heap.size, 2, none⟩ (.int .i64 0)).setCell ⟨w.heap.size, 3, none⟩ (.int .i64 0))) := HP _ ((((hbw.setCell (by simp) _).setCell (by simp) _).setCell (by simp) _).setCell (by simp) _)
    clear HP hp HPP hb1 hbw hres
    go_wp2_with fail
    exact bodyPost_ret (v := .tuple #[.agg #[.slice none 0 0, .int .i64 0, .int .i64 0, .int .i64 0], .int .i64 x, .int .i64 y]) (by simp [results, Tryd.results10, go_sem, o0, o1, o2, o3]) rfl HP2.out
end Go.Proofs.YtdpagipbaddnfaaDoor
