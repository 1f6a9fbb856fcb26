/-
  Helpers: RfW.
-/
import Derived.Test.YtnhogbgnnnniaaaDoorAsmAllBun36
import Derived.Test.YtnhogbgnnnniaaaDoorAsmAllBun27
import Derived.Test.YtnhogbgnnnniaaaDoorAsmAllBun16
namespace Go.Proofs.YtnhogbgnnnniaaaDoor
open Go.RowKit L3
open C2 (In Pr bigB shapeI inB putE SlF Tab insC cellsI)

set_option maxRecDepth 8000 in
set_option maxHeartbeats 4000000 in
theorem RParse_any (l : List UInt8) (w : World) : Calls Tryd.prog 10 #[.string (strB l)] w fun e w' => ParsePost l w e w' := by
  have hA := RAll_any l (w.alloc (.cells #[.slice none 0 0, .int .i64 0, .int .i64 0, .int .i64 0] 24))
  have hlns := lexF_lns l
  have htk := lexF_toks l
  have hln := lexF_length l
  have hP : ∀ (x : Int) (y : Int) (T : List Tk), lexF l = (T, x, y) → parseF l = if y ≠ 0 then (pr0, x, y) else match stmF [] [] 0 T with
    | .inl x => (pr0, x, 3)
    | .inr all => if bigB (progF all).fs = true then (pr0, 0, 2) else if outF all ≠ 0 then (pr0, outF all, 3) else (progF all, 0, 0) := fun x y T h => by
    unfold parseF
    rw [h]
    rfl
  obtain ⟨T, x, y, hL⟩ : ∃ T x y, lexF l = (T, x, y) := ⟨_, _, _, rfl⟩
  have hPP := hP x y T hL
  have hA2 : Calls Tryd.prog 30 #[.string (strB l)] (w.alloc (.cells #[.slice none 0 0, .int .i64 0, .int .i64 0, .int .i64 0] 24)) fun e w' => ∃ ta tc, e = .returned (.tuple #[.slice ta T.length tc, .int .i64 x, .int .i64 y]) ∧ SlT w' (.slice ta T.length tc) T ∧ Below (w.alloc (.cells #[.slice none 0 0, .int .i64 0, .int .i64 0, .int .i64 0] 24)).heap.size (w.alloc (.cells #[.slice none 0 0, .int .i64 0, .int .i64 0, .int .i64 0] 24)) w' := by
    refine hA.mono ?_
    rintro e w' ⟨ta, tc, h1, h2, h3⟩
    rw [hL] at h1 h2
    exact ⟨ta, tc, h1, h2, h3⟩
  rw [hL] at hlns htk hln
  simp only at hlns htk hln
  have hl1 : ∀ t ∈ T, 1 ≤ t.l ∧ t.l ≤ 9000 := fun t ht => (htk t ht).2
  have HPP : Hid (parseF l = _) := hPP
  clear hA hP hL hPP htk
  go_enter Tryd.func10, Tryd.ntmps10
  go_wp2_with fail
  refine hA2.mono ?_
  rintro e w1 ⟨ta, tc, rfl, hS, hb1⟩
  have hbw : Below w.heap.size w w1 := below_then (below_one _ _) hb1
  have hres : w1.heap[w.heap.size]? = some (.cells #[.slice none 0 0, .int .i64 0, .int .i64 0, .int .i64 0] 24 (0, 0)) := (hb1.block _ (by simp)).trans (heap_alloc_new _ _)
  have hzs := lt_of_block hres
  by_cases hy : y = 0
  · subst hy
    have HP0 : Hid (parseF l = match stmF [] [] 0 T with
      | .inl x => (pr0, x, 3)
      | .inr all => if bigB (progF all).fs = true then (pr0, 0, 2) else if outF all ≠ 0 then (pr0, outF all, 3) else (progF all, 0, 0)) := by have h := HPP.out; rw [if_neg (by simp)] at h; exact h
    clear HPP
    go_wp2_with fail
    have hRW0 := RW.start hS hbw hres
    have hRI0 := RI.start hlns
    have hpos : ∀ u ∈ T, 1 ≤ u.l := fun u hu => (hl1 u hu).1
    have HBAD : Hid (∀ L, stmF [] [] 0 T = .inl L → ∀ W, Below w.heap.size w W → ParsePost l w (.returned (.tuple #[.agg #[.slice none 0 0, .int .i64 0, .int .i64 0, .int .i64 0], .int .i64 L, .int .i64 3])) ((((W.setCell ⟨w.heap.size, 0, none⟩ (.slice none 0 0)).setCell ⟨w.heap.size, 1, none⟩ (.int .i64 0)).setCell ⟨w.heap.size, 2, none⟩ (.int .i64 0)).setCell ⟨w.heap.size, 3, none⟩ (.int .i64 0))) := fun L h W hb => parse_none (by rw [HP0.out, h]) (zero_below hb)
    have HEND : Hid (∀ all, stmF [] [] 0 T = .inr all → parseF l = if bigB (progF all).fs = true then (pr0, 0, 2) else if outF all ≠ 0 then (pr0, outF all, 3) else (progF all, 0, 0)) := fun all h => by rw [HP0.out, h]
    clear HP0 hA2 hb1 hbw hres hS
    obtain ⟨R0, hR0⟩ : ∃ R, T = R := ⟨_, rfl⟩
    have hRW0' : RW w w1 ((w1.alloc (.cells #[.slice ta T.length tc, .int .i64 0, .bool false, .int .i64 0] 60)).alloc (.cells #[.slice none 0 0, .int .i64 0, .int .i64 0, .int .i64 0] 24)) ta tc T (some R0) 0 pr0 none 0 0 [] := by rw [← hR0]; exact hRW0
    have hRI0' : RI T R0 [] 0 := by rw [← hR0]; exact hRI0
    clear hRW0 hRI0 hR0
    have hRW0 := hRW0'
    have hRI0 := hRI0'
    clear hRW0' hRI0'
    have hfs0 := firstR_any hRW0.pat hln hl1 (wordOf 16) ⟨#[102, 117, 116, 117, 114, 101, 115]⟩ rfl 0 16
    have hst0 := first_step hRI0 hpos (j := 16) rfl (by simp)
    obtain ⟨L0, hL0⟩ : ∃ L, lineO T R0 = L := ⟨_, rfl⟩
    rw [hL0] at hfs0 hst0
    refine hfs0.mono ?_
    rintro e v0 ⟨rfl, hp0, ho0⟩
    have hRWa0 := hRW0.step hp0 ho0
    have hgb0 := out_cells hRWa0.box
    have hgf0 := frozen_of_row _ _ 1 _ _ hRWa0.box
    obtain ⟨n0, hn0⟩ : ∃ n, firstV (wordOf 16) (some R0) = n := ⟨_, rfl⟩
    rw [hn0] at hRWa0 hst0 ⊢
    clear hfs0 hp0 ho0 hn0 hRW0 hL0
    obtain ⟨k0_0, k1_0, k2_0, k3_0⟩ := hgb0
    have hRWb0 := hRWa0.set 1 n0 (p' := ⟨[], n0, 0, 0⟩) rfl (by simp [pr0])
    rcases hst0 with ⟨hno, hbad⟩ | ⟨R1, xs0, l0, hgo, hx0, hRI1⟩
    · rw [hno] at hRWb0
      have c2 := pat_bad hRWb0.pat
      obtain ⟨o0, o1, o2, o3⟩ := out_cells hRWb0.out
      have f0 := frozen_of_row _ _ 0 _ _ hRWb0.out
      have f1 := frozen_of_row _ _ 1 _ _ hRWb0.out
      have f2 := frozen_of_row _ _ 2 _ _ hRWb0.out
      have f3 := frozen_of_row _ _ 3 _ _ hRWb0.out
      have HPR := HBAD.out L0 hbad _ hRWb0.low
      have HPR2 : Hid (ParsePost l w _ _) := HPR
      clear HPR hRWb0 hRWa0 hRI0 hbad hno HBAD HEND
      go_wp2_with fail
      exact bodyPost_ret (v := .tuple #[.agg #[.slice none 0 0, .int .i64 0, .int .i64 0, .int .i64 0], .int .i64 L0, .int .i64 3]) (by simp [results, Tryd.results10, go_sem, o0, o1, o2, o3]) rfl HPR2.out
    have hRW1 := hRWb0
    rw [hgo] at hRW1
    have c2_0 := pat_good hRW1.pat
    clear hRWa0 hRWb0 hRI0 hgo
    go_wp2_with fail
    clear c2_0 k0_0 k1_0 k2_0 k3_0 hgf0
    have hfs1 := firstR_any hRW1.pat hln hl1 (wordOf 17) ⟨#[100, 101, 112, 116, 104]⟩ rfl 0 5
    have hst1 := first_step hRI1 hpos (j := 17) rfl (by simp)
    obtain ⟨L1, hL1⟩ : ∃ L, lineO T R1 = L := ⟨_, rfl⟩
    rw [hL1] at hfs1 hst1
    refine hfs1.mono ?_
    rintro e v1 ⟨rfl, hp1, ho1⟩
    have hRWa1 := hRW1.step hp1 ho1
    have hgb1 := out_cells hRWa1.box
    have hgf1 := frozen_of_row _ _ 2 _ _ hRWa1.box
    obtain ⟨n1, hn1⟩ : ∃ n, firstV (wordOf 17) (some R1) = n := ⟨_, rfl⟩
    rw [hn1] at hRWa1 hst1 ⊢
    clear hfs1 hp1 ho1 hn1 hRW1 hL1
    obtain ⟨k0_1, k1_1, k2_1, k3_1⟩ := hgb1
    have hRWb1 := hRWa1.set 2 n1 (p' := ⟨[], n0, n1, 0⟩) rfl (by simp)
    rcases hst1 with ⟨hno, hbad⟩ | ⟨R2, xs1, l1, hgo, hx1, hRI2⟩
    · rw [hno] at hRWb1
      have c2 := pat_bad hRWb1.pat
      obtain ⟨o0, o1, o2, o3⟩ := out_cells hRWb1.out
      have f0 := frozen_of_row _ _ 0 _ _ hRWb1.out
      have f1 := frozen_of_row _ _ 1 _ _ hRWb1.out
      have f2 := frozen_of_row _ _ 2 _ _ hRWb1.out
      have f3 := frozen_of_row _ _ 3 _ _ hRWb1.out
      have HPR := HBAD.out L1 hbad _ hRWb1.low
      have HPR2 : Hid (ParsePost l w _ _) := HPR
      clear HPR hRWb1 hRWa1 hRI1 hbad hno HBAD HEND
      go_wp2_with fail
      exact bodyPost_ret (v := .tuple #[.agg #[.slice none 0 0, .int .i64 0, .int .i64 0, .int .i64 0], .int .i64 L1, .int .i64 3]) (by simp [results, Tryd.results10, go_sem, o0, o1, o2, o3]) rfl HPR2.out
    have hRW2 := hRWb1
    rw [hgo] at hRW2
    have c2_1 := pat_good hRW2.pat
    clear hRWa1 hRWb1 hRI1 hgo
    go_wp2_with fail
    clear c2_1 k0_1 k1_1 k2_1 k3_1 hgf1
    have hfs2 := firstR_any hRW2.pat hln hl1 (wordOf 18) ⟨#[102, 117, 101, 108]⟩ rfl 1 500
    have hst2 := first_step hRI2 hpos (j := 18) rfl (by simp)
    obtain ⟨L2, hL2⟩ : ∃ L, lineO T R2 = L := ⟨_, rfl⟩
    rw [hL2] at hfs2 hst2
    refine hfs2.mono ?_
    rintro e v2 ⟨rfl, hp2, ho2⟩
    have hRWa2 := hRW2.step hp2 ho2
    have hgb2 := out_cells hRWa2.box
    have hgf2 := frozen_of_row _ _ 3 _ _ hRWa2.box
    obtain ⟨n2, hn2⟩ : ∃ n, firstV (wordOf 18) (some R2) = n := ⟨_, rfl⟩
    rw [hn2] at hRWa2 hst2 ⊢
    clear hfs2 hp2 ho2 hn2 hRW2 hL2
    obtain ⟨k0_2, k1_2, k2_2, k3_2⟩ := hgb2
    have hRWb2 := hRWa2.set 3 n2 (p' := ⟨[], n0, n1, n2⟩) rfl (by simp)
    rcases hst2 with ⟨hno, hbad⟩ | ⟨R3, xs2, l2, hgo, hx2, hRI3⟩
    · rw [hno] at hRWb2
      have c2 := pat_bad hRWb2.pat
      obtain ⟨o0, o1, o2, o3⟩ := out_cells hRWb2.out
      have f0 := frozen_of_row _ _ 0 _ _ hRWb2.out
      have f1 := frozen_of_row _ _ 1 _ _ hRWb2.out
      have f2 := frozen_of_row _ _ 2 _ _ hRWb2.out
      have f3 := frozen_of_row _ _ 3 _ _ hRWb2.out
      have HPR := HBAD.out L2 hbad _ hRWb2.low
      have HPR2 : Hid (ParsePost l w _ _) := HPR
      clear HPR hRWb2 hRWa2 hRI2 hbad hno HBAD HEND
      go_wp2_with fail
      exact bodyPost_ret (v := .tuple #[.agg #[.slice none 0 0, .int .i64 0, .int .i64 0, .int .i64 0], .int .i64 L2, .int .i64 3]) (by simp [results, Tryd.results10, go_sem, o0, o1, o2, o3]) rfl HPR2.out
    have hRW3 := hRWb2
    rw [hgo] at hRW3
    have c2_2 := pat_good hRW3.pat
    clear hRWa2 hRWb2 hRI2 hgo
    go_wp2_with fail
    clear c2_2 k0_2 k1_2 k2_2 k3_2 hgf2
    have hp3 := hRI3.pos
    have hpg : progF ([] ++ [⟨16, xs0, L0⟩] ++ [⟨17, xs1, L1⟩] ++ [⟨18, xs2, L2⟩]) = ⟨[], n0, n1, n2⟩ := by simp [progF, stepP, pr0, hx0, hx1, hx2]
    have hof : outF ([] ++ [⟨16, xs0, L0⟩] ++ [⟨17, xs1, L1⟩] ++ [⟨18, xs2, L2⟩]) = offI (offI (offI 0 L0 (inB n0 0 16)) L1 (inB n1 0 5)) L2 (inB n2 1 500) := by
      rw [out_first _ _ _ (hp3 _ (by simp)) (hp3 _ (by simp))]
      simp only [rangeB, hx0, hx1, hx2]
      simp
    rw [← hpg, ← hof] at hRW3
    obtain ⟨all3, hall3⟩ : ∃ all, ([] ++ [⟨16, xs0, L0⟩] ++ [⟨17, xs1, L1⟩] ++ [⟨18, xs2, L2⟩] : List Sm) = all := ⟨_, rfl⟩
    have hlen3 : all3.length = 3 := by rw [← hall3]; rfl
    have hbg : bigL (progF all3).fs = false := by rw [← hall3, hpg]; rfl
    rw [hall3] at hRW3 hRI3
    generalize hW3 : v2.setCell ⟨w1.heap.size + 1, 3, none⟩ (.int .i64 n2) = W3 at *
    clear hW3 hp3 hpg hof hall3 hx0 hx1 hx2
    obtain ⟨i0, hi, hz0, hz1', hz2⟩ := info_parts C2.infoIns
    obtain ⟨i1, ki, kz0, kz1, kz2⟩ := info_parts C2.infoFns
    go_loopw [11] (fun bv wr => ∃ (R : List Tk) (all : List Sm) (last : Int) (fa : Option Addr) (fl fc : Nat) (vals : List Value), 3 ≤ all.length ∧ all.length + R.length ≤ 20003 ∧ bv = .bool (bigL (progF all).fs) ∧ RI T R all last ∧ RW w w1 wr ta tc T (some R) (outF all) (progF all) fa fl fc vals) (fun _ wr => muW w1.heap.size T.length wr)
    case atStart => exact ⟨R3, all3, l2, none, 0, 0, [], by omega, by obtain ⟨T1, hT1, -⟩ := hRI3.pre; have := congrArg List.length hT1; simp at this; omega, by rw [hbg], hRI3, hRW3⟩
    case round =>
      obtain ⟨R, all, last, fa, fl, fc, vals, h3, hal, rfl, hRI, hRW⟩ := hrel
      clear hRI3 hRW3 hbg hlen3
      have hmu := mu_pat hRW.pat
      obtain ⟨I, hbox, hIT, hRd⟩ := pat_open hRW.pat
      obtain ⟨c0, c1, c2, c3⟩ := p_cells hbox
      by_cases hlt : I < T.length
      · have hne : R ≠ [] := by
          intro e
          rw [hRd] at e
          have := congrArg List.length e
          simp at this
          omega
        have hrs := round_step hRI hpos h3 hne
        have hli := line_any hRW.pat hln hl1
        have hd : decide ((I : Int) < (T.length : Int)) = true := by simp; omega
        obtain ⟨L, hL⟩ : ∃ L, lineO T R = L := ⟨_, rfl⟩
        rw [hL] at hli hrs
        clear hL
        go_wp2_with fail
        refine hli.mono ?_
        rintro e wa ⟨rfl, hba⟩
        have hRWa := hRW.kept hba
        have his := is_any hRWa.pat 1 (wordOf 19) ⟨#[102, 117, 110, 99, 116, 105, 111, 110]⟩ rfl
        clear hli hRW hbox c0 c1 c2 c3 hba
        go_wp2_with fail
        refine his.mono ?_
        rintro e wb ⟨rfl, hbb⟩
        have hRWb := hRWa.kept hbb
        clear his hRWa hbb
        rcases hrs with ⟨hy, hrs⟩ | ⟨hy, hrs⟩
        · rw [hy]
          obtain ⟨I2, hbox, hIT2, hRd2⟩ := pat_open hRWb.pat
          obtain ⟨c0, c1, c2, c3⟩ := p_cells hbox
          have f1 := frozen_of_row _ _ 1 _ _ hbox
          have hlt2 : I2 < T.length := by
            by_cases hh : I2 < T.length
            · exact hh
            · exact absurd (hRd2.trans (List.drop_eq_nil_of_le (by omega))) hne
          obtain ⟨hPa, hOa⟩ := p_set hRWb.pat 1 (.int .i64 ((I2 : Int) + 1)) (I := I2 + 1) (bad := false) (off' := outF all) hbox (by simp) (by omega)
          have htl : R.tail = T.drop (I2 + 1) := by rw [hRd2, List.tail_drop]
          rw [if_neg (by simp), ← htl] at hPa
          have hRWc := hRWb.step hPa hOa
          have hmst := must_any hRWc.pat hln 4 [] ⟨#[]⟩ rfl
          clear hPa hOa htl hbox hRWb hRd hRd2
          go_wp2_with fail
          refine hmst.mono ?_
          rintro e wc ⟨rfl, hpc, hoc⟩
          have hRWd := hRWc.step hpc hoc
          have hRWe := hRWd.kept (below_one wc (.cells #[.slice none 0 0] 39))
          have hrow := hRWe.fns.row
          have hvl : vals.length ≤ 20010 := by
            have h1 := hRWe.fns.len
            have h2 := (progF_bd all).1
            omega
          obtain ⟨r0, -, -, -⟩ := out_cells hRWd.box
          have hsz := lt_of_block hRWd.box
          clear hmst hRWc hpc hoc hRWd c0 c1 c2 c3 f1
          go_wp2_with (at_builtin; refine wpList_append_own _ rfl _ _ 22 rfl (w1.heap.size + 2) 39 i1 (.slice none 0 0) 1 24 Tryd.underlying22 ki kz0 kz1 kz2 rfl (by decide) _ _ _ rfl hrow ⟨wc.heap.size, 0, none⟩ 1 1 [.slice none 0 0] rfl rfl ?d1 ?d2 ?d3 ?d4 ?d5 ?_)
          case d1 => exact C2.one_new _ _ _
          case d2 => intro u hu; simp at hu; subst hu; rfl
          case d3 => unfold maxLen; omega
          case d4 => omega
          case d5 => have := hRWe.low.size; simp; omega
          intro v' w4 hown4 hgrow _
          obtain ⟨gg, cap, rfl⟩ := row_some hown4
          have hRWf := hRWe.more hgrow hown4
          obtain ⟨-, hb4, -, -⟩ := hRWe.grown (fun g hg => own_blk hRWe.fns.row hg) hgrow
          obtain ⟨t0, -, -, -⟩ := out_cells hb4
          have t1 := frozen_of_row _ _ 0 _ _ hb4
          clear hRWe hgrow hown4 hrow hb4 r0
          rcases hrs with ⟨hno, hbad⟩ | ⟨R', l', hsh, hgo, hRI'⟩
          · rw [hno] at hRWf
            have c2 := pat_bad hRWf.pat
            obtain ⟨o0, o1, o2, o3⟩ := out_cells hRWf.out
            have g0 := frozen_of_row _ _ 0 _ _ hRWf.out
            have g1 := frozen_of_row _ _ 1 _ _ hRWf.out
            have g2 := frozen_of_row _ _ 2 _ _ hRWf.out
            have g3 := frozen_of_row _ _ 3 _ _ hRWf.out
            have HPR := HBAD.out L hbad _ hRWf.low
            have HPR2 : Hid (ParsePost l w _ _) := HPR
            clear HPR hRWf hRI hbad hno HBAD HEND
            go_wp2_with fail
            exact bodyPost_ret (v := .tuple #[.agg #[.slice none 0 0, .int .i64 0, .int .i64 0, .int .i64 0], .int .i64 L, .int .i64 3]) (by simp [results, Tryd.results10, go_sem, o0, o1, o2, o3]) rfl HPR2.out
          · rw [hgo] at hRWf
            have c2 := pat_good hRWf.pat
            have hmu' := mu_pat hRWf.pat
            have hpf : progF (all ++ [⟨19, [], L⟩]) = ⟨(progF all).fs ++ [[]], (progF all).futs, (progF all).depth, (progF all).fuel⟩ := by rw [progF_snoc]; rfl
            have hof : outF (all ++ [⟨19, [], L⟩]) = outF all := by
              rw [outF_snoc _ _ hRI.pos]
              unfold offI
              rw [if_neg (by simp [rangeB])]
            have HN : Hid (RW w w1 (w4.setCell ⟨w1.heap.size + 1, 0, none⟩ (.slice (some ⟨gg, 0, none⟩) (vals.length + 1) cap)) ta tc T (some R') (outF (all ++ [⟨19, [], L⟩])) (progF (all ++ [⟨19, [], L⟩])) (some ⟨gg, 0, none⟩) (vals.length + 1) cap (vals ++ [.slice none 0 0])) := by rw [hpf, hof]; exact hRWf
            have HB : Hid (bigL (progF (all ++ [⟨19, [], L⟩])).fs = bigL (progF all).fs) := by rw [hpf]; exact bigL_new _
            have HM : Hid (muW w1.heap.size T.length (w4.setCell ⟨w1.heap.size + 1, 0, none⟩ (.slice (some ⟨gg, 0, none⟩) (vals.length + 1) cap)) < muW w1.heap.size T.length wr) := by show _ < _; omega
            clear hRWf hpf hof hmu hmu' hgo
            go_wp2_with fail
            go_roundw
            case rel => exact ⟨R', all ++ [⟨19, [], L⟩], l', _, _, _, _, by simp; omega, by simp; omega, by rw [HB.out], hRI', HN.out⟩
            case measure => exact HM.out
        · rw [hy]
          have hin := insR_any hRWb.pat hln
          go_wp2_with fail
          refine hin.mono ?_
          rintro e wc ⟨rfl, hpc, hoc⟩
          have hRWc := hRWb.step hpc hoc
          obtain ⟨i, hii⟩ : ∃ i, insVR (some R) = i := ⟨_, rfl⟩
          rw [hii] at hrs ⊢
          have hRWd := hRWc.kept (below_one wc (.cells #[.int .i64 i.o, .int .i64 i.a, .int .i64 i.b, .int .i64 i.c] 42))
          have hxb : (wc.alloc (.cells #[.int .i64 i.o, .int .i64 i.a, .int .i64 i.b, .int .i64 i.c] 42)).heap[wc.heap.size]? = some (.cells #[.int .i64 i.o, .int .i64 i.a, .int .i64 i.b, .int .i64 i.c] 42 (0, 0)) := heap_alloc_new _ _
          have hbc := lt_of_block hRWc.box
          obtain ⟨r0, -, -, -⟩ := out_cells hRWc.box
          obtain ⟨s0, -, -, -⟩ := out_cells hRWd.box
          have hfl : fl = (progF all).fs.length := by
            obtain ⟨a, c, he, -⟩ := hRWd.fns.slF
            simp at he
            exact he.2.1
          have hfb := (progF_bd all).1
          clear hin hpc hoc hRWb hii
          by_cases hfs : (progF all).fs = []
          · have hfl0 : fl = 0 := by rw [hfl, hfs]; rfl
            have hbad : stmF [] [] 0 T = .inl L := by
              rcases hrs with ⟨-, h⟩ | ⟨-, h⟩ | ⟨R', k, xs, l', -, h, -⟩
              · exact h
              · exact h
              · exact absurd hfs h
            subst hfl0
            obtain ⟨I2, bad2, hbox2, hI2, ho2⟩ := hRWd.pat.box
            obtain ⟨c0, c1, c2, c3⟩ := p_cells hbox2
            have f2 := frozen_of_row _ _ 2 _ _ hbox2
            obtain ⟨hPa, hOa⟩ := p_set hRWd.pat 2 (.bool true) (bad := true) hbox2 rfl hI2
            have hRWe := hRWd.step hPa hOa
            have hoff := off_any hRWe.pat L true
            have c2e := pat_bad hRWe.pat
            have HBD : Hid (stmF [] [] 0 T = .inl L) := hbad
            clear hPa hOa hbox2 ho2 hRWd hRWc hrs hbad hfs hfl hfb
            go_wp2_with fail
            refine hoff.mono ?_
            rintro e wf ⟨rfl, hpf, hof⟩
            have hRWf := hRWe.step hpf hof
            have c2f := pat_bad hRWf.pat
            obtain ⟨o0, o1, o2, o3⟩ := out_cells hRWf.out
            have g0 := frozen_of_row _ _ 0 _ _ hRWf.out
            have g1 := frozen_of_row _ _ 1 _ _ hRWf.out
            have g2 := frozen_of_row _ _ 2 _ _ hRWf.out
            have g3 := frozen_of_row _ _ 3 _ _ hRWf.out
            have HPR := HBAD.out L HBD.out _ hRWf.low
            have HPR2 : Hid (ParsePost l w _ _) := HPR
            clear HPR hRWf hRWe hoff hpf hof hRI HBD HBAD HEND
            go_wp2_with fail
            exact bodyPost_ret (v := .tuple #[.agg #[.slice none 0 0, .int .i64 0, .int .i64 0, .int .i64 0], .int .i64 L, .int .i64 3]) (by simp [results, Tryd.results10, go_sem, o0, o1, o2, o3]) rfl HPR2.out
          · obtain ⟨F, f, hF⟩ : ∃ F f, (progF all).fs = F ++ [f] := ⟨(progF all).fs.dropLast, (progF all).fs.getLast hfs, (List.dropLast_concat_getLast hfs).symm⟩
            have hlen := hRWd.fns.len
            have hvne : vals ≠ [] := by intro e; rw [e, hF] at hlen; simp at hlen
            obtain ⟨V, v, hV⟩ : ∃ V v, vals = V ++ [v] := ⟨vals.dropLast, vals.getLast hvne, (List.dropLast_concat_getLast hvne).symm⟩
            subst hV
            have hrow := hRWd.fns.row
            have hvl : (V ++ [v]).length = V.length + 1 := by simp
            rw [hvl] at hrow
            obtain ⟨go, gc, hgo⟩ := row_some hrow
            simp at hgo
            obtain ⟨rfl, rfl, rfl⟩ := hgo
            have hl0 : V.length = F.length := by have := hlen; rw [hF] at this; simpa using this
            have hVb : V.length ≤ 20010 ∧ f.length ≤ 20010 := by
              have h1 := hfb
              have h2 := (progF_bd all).2 f (by rw [hF]; simp)
              rw [hF] at h1
              simp at h1
              omega
            have hfns := hRWd.fns
            rw [hF] at hfns
            obtain ⟨va, vl, vc, ev, hown1⟩ : ∃ a l c, v = .slice a l c ∧ (wc.alloc (.cells #[.int .i64 i.o, .int .i64 i.a, .int .i64 i.b, .int .i64 i.c] 42)).ownsRow (w1.heap.size + 2) 42 4 v f.length (cellsI f) := by
              have := hfns.ins V.length (by simp; omega) (by simp)
              simpa [hl0] using this
            subst ev
            have a1 : (wc.alloc (.cells #[.int .i64 i.o, .int .i64 i.a, .int .i64 i.b, .int .i64 i.c] 42)).cell? ⟨go, V.length, none⟩ = some (.slice va vl vc) := by rw [hrow.cellAt _ (by omega)]; simp
            have hgo1 := own_blk hrow rfl
            have hgo2 := block_lt_of_cell a1
            have hnego : (Value.slice va vl vc).ownBlock ≠ some go := own_ne hrow hown1 (by decide) go rfl
            have hvB : ∀ g, (Value.slice va vl vc).ownBlock = some g → w1.heap.size + 2 ≤ g := fun g hg => own_blk hown1 hg
            have hneW : (Value.slice va vl vc).ownBlock ≠ some wc.heap.size := fun e => by
              have hh := hRWc.fns.ins V.length (by rw [hF]; simp; omega) (by simp)
              obtain ⟨_, _, _, _, h2⟩ := hh
              have := (h2.lt _ (by simpa using e)).2
              omega
            have hRWc_row : go < wc.heap.size ∧ True := ⟨(hRWc.fns.row.lt go rfl).2, trivial⟩
            obtain ⟨cur, hcur⟩ : ∃ cur, (wc.alloc (.cells #[.int .i64 i.o, .int .i64 i.a, .int .i64 i.b, .int .i64 i.c] 42)).heap[go]? = some (.cells cur 39 (0, 0)) := by
              rcases hrow.2 with ⟨h0, _⟩ | ⟨g', cap', cur, e', _, h2, _⟩
              · simp at h0
              · simp at e'
                obtain ⟨rfl, rfl⟩ := e'
                exact ⟨cur, h2⟩
            obtain ⟨a2, a3, a4, a5⟩ := ins_cells hxb
            have a0 := s0
            have hRWd_far : wc.heap.size ≠ go := fun e => by
              obtain ⟨hx1, -⟩ := hRWc_row
              omega
            have HRW : Hid (RW w w1 (wc.alloc (.cells #[.int .i64 i.o, .int .i64 i.a, .int .i64 i.b, .int .i64 i.c] 42)) ta tc T (insO (some R)) (outF all) (progF all) (some ⟨go, 0, none⟩) (V.length + 1) fc (V ++ [.slice va vl vc])) := hRWd
            have HF : Hid ((progF all).fs = F ++ [f]) := hF
            have hsub : ((V.length : Int) + 1 - 1) = (V.length : Int) := by omega
            have hlt1 : (V.length : Int) < (V.length : Int) + 1 := by omega
            have hng : decide ((V.length : Int) < 0) = false := by simp
            have hgol : go < (wc.alloc (.cells #[.int .i64 i.o, .int .i64 i.a, .int .i64 i.b, .int .i64 i.c] 42)).heap.size := hgo2
            have HW0 : Hid (w1.heap.size + 1 < wc.heap.size) := hbc
            clear hRWc hRWd hfns hrow hvl hlen hvne hF hfs hxb hfl hfb hbc hl0 s0
            go_wp2_with fail
            clear hsub hng r0
            refine region_last (fun w' => w'.cell? ⟨w1.heap.size + 1, 0, none⟩ = some (.slice (some ⟨go, 0, none⟩) (V.length + 1) fc) ∧ w'.cell? ⟨go, V.length, none⟩ = some (.slice va vl vc) ∧ w'.cell? ⟨wc.heap.size, 0, none⟩ = some (.int .i64 i.o) ∧ w'.cell? ⟨wc.heap.size, 1, none⟩ = some (.int .i64 i.a) ∧ w'.cell? ⟨wc.heap.size, 2, none⟩ = some (.int .i64 i.b) ∧ w'.cell? ⟨wc.heap.size, 3, none⟩ = some (.int .i64 i.c)) 12 (by kernel_rfl) ?_
            refine anyL_take (i := 0) (v := .pointer (some ⟨w1.heap.size + 1, 0, none⟩)) rfl (by kernel_rfl) (by kernel_rfl) (by kernel_rfl) (by kernel_rfl) (fun _ _ _ h => h) (.inl ⟨by rfl, fun X hX => ?_⟩) ⟨a0, a1, a2, a3, a4, a5⟩ ?_
            · obtain ⟨s0, s1, s2, s3, s4, s5⟩ := hX
              go_simp
            refine anyL_take (i := 1) (v := .slice (some ⟨go, 0, none⟩) (V.length + 1) fc) rfl (by kernel_rfl) (by kernel_rfl) (by kernel_rfl) (by kernel_rfl) (fun _ _ _ h => h) (.inl ⟨by rfl, fun X hX => ?_⟩) ⟨a0, a1, a2, a3, a4, a5⟩ ?_
            · obtain ⟨s0, s1, s2, s3, s4, s5⟩ := hX
              go_simp
            refine anyL_take (i := 2) (v := .int .i64 (V.length : Int)) rfl (by kernel_rfl) (by kernel_rfl) (by kernel_rfl) (by kernel_rfl) (fun _ _ _ h => h) (.inl ⟨by rfl, fun X hX => ?_⟩) ⟨a0, a1, a2, a3, a4, a5⟩ ?_
            · obtain ⟨s0, s1, s2, s3, s4, s5⟩ := hX
              go_simp
            refine anyL_take (i := 3) (v := .pointer (some ⟨w1.heap.size + 1, 0, none⟩)) rfl (by kernel_rfl) (by kernel_rfl) (by kernel_rfl) (by kernel_rfl) (fun _ _ _ h => h) (.inl ⟨by rfl, fun X hX => ?_⟩) ⟨a0, a1, a2, a3, a4, a5⟩ ?_
            · obtain ⟨s0, s1, s2, s3, s4, s5⟩ := hX
              go_simp
            refine anyL_take (i := 4) (v := .slice (some ⟨go, 0, none⟩) (V.length + 1) fc) rfl (by kernel_rfl) (by kernel_rfl) (by kernel_rfl) (by kernel_rfl) (fun _ _ _ h => h) (.inl ⟨by rfl, fun X hX => ?_⟩) ⟨a0, a1, a2, a3, a4, a5⟩ ?_
            · obtain ⟨s0, s1, s2, s3, s4, s5⟩ := hX
              go_simp
            refine anyL_take (i := 5) (v := .int .i64 (V.length : Int)) rfl (by kernel_rfl) (by kernel_rfl) (by kernel_rfl) (by kernel_rfl) (fun _ _ _ h => h) (.inl ⟨by rfl, fun X hX => ?_⟩) ⟨a0, a1, a2, a3, a4, a5⟩ ?_
            · obtain ⟨s0, s1, s2, s3, s4, s5⟩ := hX
              go_simp
            refine anyL_take (i := 6) (v := .pointer (some ⟨go, V.length, none⟩)) rfl (by kernel_rfl) (by kernel_rfl) (by kernel_rfl) (by kernel_rfl) (fun _ _ _ h => h) (.inl ⟨by rfl, fun X hX => ?_⟩) ⟨a0, a1, a2, a3, a4, a5⟩ ?_
            · obtain ⟨s0, s1, s2, s3, s4, s5⟩ := hX
              go_simp
            refine anyL_take (i := 7) (v := .slice va vl vc) rfl (by kernel_rfl) (by kernel_rfl) (by kernel_rfl) (by kernel_rfl) (fun _ _ _ h => h) (.inl ⟨by rfl, fun X hX => ?_⟩) ⟨a0, a1, a2, a3, a4, a5⟩ ?_
            · obtain ⟨s0, s1, s2, s3, s4, s5⟩ := hX
              go_simp
            refine anyL_take (i := 8) (v := .agg #[.int .i64 i.o, .int .i64 i.a, .int .i64 i.b, .int .i64 i.c]) rfl (by kernel_rfl) (by kernel_rfl) (by kernel_rfl) (by kernel_rfl) (fun _ _ _ h => h) (.inl ⟨by rfl, fun X hX => ?_⟩) ⟨a0, a1, a2, a3, a4, a5⟩ ?_
            · obtain ⟨s0, s1, s2, s3, s4, s5⟩ := hX
              go_simp
            obtain ⟨W, hW⟩ : ∃ W, wc.alloc (.cells #[.int .i64 i.o, .int .i64 i.a, .int .i64 i.b, .int .i64 i.c] 42) = W := ⟨_, rfl⟩
            have hWs : W.heap.size = wc.heap.size + 1 := by rw [← hW]; simp
            rw [hW] at a0 a1 a2 a3 a4 a5 hown1 hcur HRW hgol ⊢
            have b0 := C2.still_alloc W.drew (.cells #[.int .i64 i.o, .int .i64 i.a, .int .i64 i.b, .int .i64 i.c] 42) _ _ a0
            have b1 := C2.still_alloc W.drew (.cells #[.int .i64 i.o, .int .i64 i.a, .int .i64 i.b, .int .i64 i.c] 42) _ _ a1
            have b2 := C2.still_alloc W.drew (.cells #[.int .i64 i.o, .int .i64 i.a, .int .i64 i.b, .int .i64 i.c] 42) _ _ a2
            have b3 := C2.still_alloc W.drew (.cells #[.int .i64 i.o, .int .i64 i.a, .int .i64 i.b, .int .i64 i.c] 42) _ _ a3
            have b4 := C2.still_alloc W.drew (.cells #[.int .i64 i.o, .int .i64 i.a, .int .i64 i.b, .int .i64 i.c] 42) _ _ a4
            have b5 := C2.still_alloc W.drew (.cells #[.int .i64 i.o, .int .i64 i.a, .int .i64 i.b, .int .i64 i.c] 42) _ _ a5
            refine anyL_one (i := 9) (by kernel_rfl) rfl (fun K hK => ?_)
            go_simp
            refine hK.out _ _ (.inr ⟨b0, b1, b2, b3, b4, b5⟩) ?_
            clear hK K
            refine anyL_one (i := 10) (by kernel_rfl) rfl (fun K hK => ?_)
            refine step_append_lies _ rfl (.tmp 108) (.tmp 110) 39 rfl (w1.heap.size + 2) 42 i0 (.agg #[.int .i64 0, .int .i64 0, .int .i64 0, .int .i64 0]) 4 32 Tryd.underlying39 hi hz0 hz1' hz2 rfl (by decide) (.slice va vl vc) f.length (cellsI f) (by simp [Act.eval]) (hown1.alloc _) ⟨W.heap.size, 0, none⟩ 1 1 (insC i) (by simp [Act.eval]) rfl (C2.insC_new W i 42) (C2.insC_one _) (by omega) (by unfold maxLen; omega) (by omega) (by have := HW0.out; simp; omega) _ rfl ?_
            intro g6 cap6 w6 hown6 hgrow6 hat6 hlt6
            have e6 := (hgrow6.block go (by simp; omega) (fun e => hnego e.symm)).trans ((Below.heap_alloc _ _ _ (by omega)).trans hcur)
            have x0 := hgrow6.cell b0 (fun e => absurd (hvB _ e.symm) (by simp))
            have x1 := hgrow6.cell b1 (fun e => hnego e.symm)
            have f6 := frozen_of_row w6 _ V.length _ _ e6
            have x2 := hgrow6.cell b2 (fun e => hneW e.symm)
            have x3 := hgrow6.cell b3 (fun e => hneW e.symm)
            have x4 := hgrow6.cell b4 (fun e => hneW e.symm)
            have x5 := hgrow6.cell b5 (fun e => hneW e.symm)
            refine hK.out _ _ (.inr ⟨x0, x1, x2, x3, x4, x5⟩) ?_
            clear hK K
            refine anyL_take (i := 11) (v := .pointer (some ⟨go, V.length, none⟩)) rfl (by kernel_rfl) (by kernel_rfl) (by kernel_rfl) (by kernel_rfl) (fun _ _ _ h => h) (.inl ⟨by rfl, fun X hX => ?_⟩) ⟨x0, x1, x2, x3, x4, x5⟩ ?_
            · obtain ⟨s0, s1, s2, s3, s4, s5⟩ := hX
              go_simp
            refine anyL_one (i := 12) (by kernel_rfl) rfl (fun K hK => ?_)
            go_simp
            refine hK.out _ _ (.inl rfl) ?_
            clear hK K
            refine anyL_done (by kernel_rfl) ?_
            have hRW7 := (HRW.out.kept (below_one W (.cells #[.int .i64 i.o, .int .i64 i.a, .int .i64 i.b, .int .i64 i.c] 42))).push HF.out ⟨hgrow6.os, hgrow6.tape, hgrow6.output, hgrow6.size, hgrow6.block⟩ hvB hown6 hat6
            have y1 : (w6.setCell ⟨go, V.length, none⟩ (.slice (some ⟨g6, 0, none⟩) (f.length + 1) cap6)).cell? ⟨go, V.length, none⟩ = some (.slice (some ⟨g6, 0, none⟩) (f.length + 1) cap6) := World.cell?_setCell_same _ _ _ x1
            have hneg : wc.heap.size ≠ go := fun e => by
              have h9 := hRWd_far
              exact h9 e
            have y2 : (w6.setCell ⟨go, V.length, none⟩ (.slice (some ⟨g6, 0, none⟩) (f.length + 1) cap6)).cell? ⟨wc.heap.size, 0, none⟩ = some (.int .i64 i.o) := by rw [World.cell?_of_block (Below.heap_setCell _ _ _ _ hneg)]; exact x2
            have y3 : (w6.setCell ⟨go, V.length, none⟩ (.slice (some ⟨g6, 0, none⟩) (f.length + 1) cap6)).cell? ⟨wc.heap.size, 1, none⟩ = some (.int .i64 i.a) := by rw [World.cell?_of_block (Below.heap_setCell _ _ _ _ hneg)]; exact x3
            have y4 : (w6.setCell ⟨go, V.length, none⟩ (.slice (some ⟨g6, 0, none⟩) (f.length + 1) cap6)).cell? ⟨wc.heap.size, 2, none⟩ = some (.int .i64 i.b) := by rw [World.cell?_of_block (Below.heap_setCell _ _ _ _ hneg)]; exact x4
            have y5 : (w6.setCell ⟨go, V.length, none⟩ (.slice (some ⟨g6, 0, none⟩) (f.length + 1) cap6)).cell? ⟨wc.heap.size, 3, none⟩ = some (.int .i64 i.c) := by rw [World.cell?_of_block (Below.heap_setCell _ _ _ _ hneg)]; exact x5
            generalize hw7 : w6.setCell ⟨go, V.length, none⟩ (.slice (some ⟨g6, 0, none⟩) (f.length + 1) cap6) = w7 at *
            obtain ⟨y0, -, -, -⟩ := out_cells hRW7.box
            clear hw7 x0 x1 x2 x3 x4 x5 b0 b1 b2 b3 b4 b5 a0 a1 a2 a3 a4 a5 e6 f6 hown6 hgrow6 hat6 hown1 hcur HRW
            have HBP : Hid (bigL (F ++ [f ++ [i]]) = (bigL (progF all).fs || decide (40 < f.length + 1))) := by show _ = _; rw [HF.out]; exact bigL_push F f i
            have HSH := C2.RShape_any i.o i.a i.b i.c
            have HSH2 : Hid (∀ w', Calls Tryd.prog 37 #[.agg #[.int .i64 i.o, .int .i64 i.a, .int .i64 i.b, .int .i64 i.c]] w' fun e w'' => e = .returned (.bool (shapeI i)) ∧ Below w'.heap.size w' w'') := HSH
            clear HSH
            obtain ⟨b, hb⟩ : ∃ b, bigL (progF all).fs = b := ⟨_, rfl⟩
            rw [hb] at HBP ⊢
            obtain ⟨bq, hbq⟩ : ∃ bq, decide ((40 : Int) < (f.length : Int) + 1) = bq := ⟨_, rfl⟩
            have HBP2 : Hid (bigL (F ++ [f ++ [i]]) = (b || bq)) := by
              show _ = _
              rw [HBP.out, ← hbq]
              congr 1
              rw [Bool.eq_iff_iff]
              simp
              omega
            clear HBP hb
            rcases hrs with ⟨hno, hbad⟩ | ⟨hfe, -⟩ | ⟨R', k, xs, l', hsh, -, hk15, hgo', hiv, hRI'⟩
            · rw [hno] at hRW7
              have c2 := pat_bad hRW7.pat
              have hoff := off_any hRW7.pat L true
              have HBD : Hid (stmF [] [] 0 T = .inl L) := hbad
              clear hno hbad HBP2 HSH2
              cases b with
              | true =>
                go_wp2_with fail
                refine hoff.mono ?_
                rintro e wf ⟨rfl, hpf, hof⟩
                have hRWf := hRW7.step hpf hof
                have c2f := pat_bad hRWf.pat
                obtain ⟨o0, o1, o2, o3⟩ := out_cells hRWf.out
                have g0 := frozen_of_row _ _ 0 _ _ hRWf.out
                have g1 := frozen_of_row _ _ 1 _ _ hRWf.out
                have g2 := frozen_of_row _ _ 2 _ _ hRWf.out
                have g3 := frozen_of_row _ _ 3 _ _ hRWf.out
                have HPR := HBAD.out L HBD.out _ hRWf.low
                have HPR2 : Hid (ParsePost l w _ _) := HPR
                clear HPR hRWf hRW7 hoff hpf hof hRI HBD HBAD HEND
                go_wp2_with fail
                exact bodyPost_ret (v := .tuple #[.agg #[.slice none 0 0, .int .i64 0, .int .i64 0, .int .i64 0], .int .i64 L, .int .i64 3]) (by simp [results, Tryd.results10, go_sem, o0, o1, o2, o3]) rfl HPR2.out
              | false =>
                go_wp2_with fail
                refine hoff.mono ?_
                rintro e wf ⟨rfl, hpf, hof⟩
                have hRWf := hRW7.step hpf hof
                have c2f := pat_bad hRWf.pat
                obtain ⟨o0, o1, o2, o3⟩ := out_cells hRWf.out
                have g0 := frozen_of_row _ _ 0 _ _ hRWf.out
                have g1 := frozen_of_row _ _ 1 _ _ hRWf.out
                have g2 := frozen_of_row _ _ 2 _ _ hRWf.out
                have g3 := frozen_of_row _ _ 3 _ _ hRWf.out
                have HPR := HBAD.out L HBD.out _ hRWf.low
                have HPR2 : Hid (ParsePost l w _ _) := HPR
                clear HPR hRWf hRW7 hoff hpf hof hRI HBD HBAD HEND
                go_wp2_with fail
                exact bodyPost_ret (v := .tuple #[.agg #[.slice none 0 0, .int .i64 0, .int .i64 0, .int .i64 0], .int .i64 L, .int .i64 3]) (by simp [results, Tryd.results10, go_sem, o0, o1, o2, o3]) rfl HPR2.out
            · rw [HF.out] at hfe
              simp at hfe
            · rw [hgo'] at hRW7
              have c2 := pat_good hRW7.pat
              have hpf : progF (all ++ [⟨k, xs, L⟩]) = ⟨F ++ [f ++ [i]], (progF all).futs, (progF all).depth, (progF all).fuel⟩ := by
                rw [progF_snoc]
                unfold stepP
                rw [if_neg (by show k ≠ 16; omega), if_neg (by show k ≠ 17; omega), if_neg (by show k ≠ 18; omega), if_neg (by show k ≠ 19; omega), HF.out, pushL_snoc, hiv]
              have hof : outF (all ++ [⟨k, xs, L⟩]) = offI (outF all) L (shapeI i) := by
                rw [outF_snoc _ _ hRI.pos]
                unfold rangeB
                rw [if_neg (by show k ≠ 16; omega), if_neg (by show k ≠ 17; omega), if_neg (by show k ≠ 18; omega), if_neg (by show k ≠ 19; omega), hiv]
              have HPF : Hid (progF (all ++ [⟨k, xs, L⟩]) = ⟨F ++ [f ++ [i]], (progF all).futs, (progF all).depth, (progF all).fuel⟩) := hpf
              have HOF : Hid (outF (all ++ [⟨k, xs, L⟩]) = offI (outF all) L (shapeI i)) := hof
              clear hpf hof hgo' hiv HF
              generalize shapeI i = sh at *
              cases b with
              | true =>
                go_wp2_with fail
                refine (HSH2.out _).mono ?_
                rintro e we ⟨rfl, hbe⟩
                have hRWe := hRW7.kept hbe
                have hoff := off_any hRWe.pat L sh
                go_wp2_with fail
                refine hoff.mono ?_
                rintro e wf ⟨rfl, hpf, hof⟩
                have hRWf := hRWe.step hpf hof
                have c2f := pat_good hRWf.pat
                have hmu' := mu_pat hRWf.pat
                have HN : Hid (RW w w1 wf ta tc T (some R') (outF (all ++ [⟨k, xs, L⟩])) (progF (all ++ [⟨k, xs, L⟩])) (some ⟨go, 0, none⟩) (V.length + 1) fc (V ++ [.slice (some ⟨g6, 0, none⟩) (f.length + 1) cap6])) := by show RW _ _ _ _ _ _ _ _ _ _ _ _ _; rw [HPF.out, HOF.out]; exact hRWf
                have HB : Hid (bigL (progF (all ++ [⟨k, xs, L⟩])).fs = true) := by show _ = _; rw [HPF.out]; rw [HBP2.out]; rfl
                have HM : Hid (muW w1.heap.size T.length wf < muW w1.heap.size T.length wr) := by show _ < _; omega
                clear hRWf hRWe hRW7 hoff hpf hof hmu hmu' HPF HOF HBP2 hRI
                go_wp2_with fail
                go_roundw
                case rel => exact ⟨R', all ++ [⟨k, xs, L⟩], l', _, _, _, _, by simp; omega, by simp; omega, by rw [HB.out], hRI', HN.out⟩
                case measure => exact HM.out
              | false =>
                go_wp2_with fail
                refine (HSH2.out _).mono ?_
                rintro e we ⟨rfl, hbe⟩
                have hRWe := hRW7.kept hbe
                have hoff := off_any hRWe.pat L sh
                go_wp2_with fail
                refine hoff.mono ?_
                rintro e wf ⟨rfl, hpf, hof⟩
                have hRWf := hRWe.step hpf hof
                have c2f := pat_good hRWf.pat
                have hmu' := mu_pat hRWf.pat
                have HN : Hid (RW w w1 wf ta tc T (some R') (outF (all ++ [⟨k, xs, L⟩])) (progF (all ++ [⟨k, xs, L⟩])) (some ⟨go, 0, none⟩) (V.length + 1) fc (V ++ [.slice (some ⟨g6, 0, none⟩) (f.length + 1) cap6])) := by show RW _ _ _ _ _ _ _ _ _ _ _ _ _; rw [HPF.out, HOF.out]; exact hRWf
                have HB : Hid (bigL (progF (all ++ [⟨k, xs, L⟩])).fs = bq) := by show _ = _; rw [HPF.out]; rw [HBP2.out]; rfl
                have HM : Hid (muW w1.heap.size T.length wf < muW w1.heap.size T.length wr) := by show _ < _; omega
                clear hRWf hRWe hRW7 hoff hpf hof hmu hmu' HPF HOF HBP2 hRI
                go_wp2_with fail
                go_roundw
                case rel => exact ⟨R', all ++ [⟨k, xs, L⟩], l', _, _, _, _, by simp; omega, by simp; omega, by rw [HB.out], hRI', HN.out⟩
                case measure => exact HM.out
      · have hd : decide ((I : Int) < (T.length : Int)) = false := by simp; omega
        have hRn : R = [] := by rw [hRd]; exact List.drop_eq_nil_of_le (by omega)
        subst hRn
        have hend := HEND.out all (hRI.done h3)
        have hbq := bigB_eq (progF all).fs
        obtain ⟨d0, d1, d2, d3⟩ := out_cells hRW.box
        obtain ⟨o0, o1, o2, o3⟩ := out_cells hRW.out
        have g0 := frozen_of_row _ _ 0 _ _ hRW.out
        have g1 := frozen_of_row _ _ 1 _ _ hRW.out
        have g2 := frozen_of_row _ _ 2 _ _ hRW.out
        have g3 := frozen_of_row _ _ 3 _ _ hRW.out
        have hfl : fl = (progF all).fs.length := by
          obtain ⟨a, c, he, -⟩ := hRW.fns.slF
          simp at he
          exact he.2.1
        have hfb := (progF_bd all).1
        have hout0 : 0 ≤ outF all := outF_nn all hRI.pos
        have HFW : Hid (SlF ((((wr.setCell ⟨w.heap.size, 0, none⟩ (.slice fa fl fc)).setCell ⟨w.heap.size, 1, none⟩ (.int .i64 (progF all).futs)).setCell ⟨w.heap.size, 2, none⟩ (.int .i64 (progF all).depth)).setCell ⟨w.heap.size, 3, none⟩ (.int .i64 (progF all).fuel)) (.slice fa fl fc) (progF all).fs) := by
          refine (hRW.fns.far fun g h1 h2 => ?_).slF
          rw [Below.heap_setCell _ _ _ _ (by show g ≠ w.heap.size; omega), Below.heap_setCell _ _ _ _ (by show g ≠ w.heap.size; omega), Below.heap_setCell _ _ _ _ (by show g ≠ w.heap.size; omega), Below.heap_setCell _ _ _ _ (by show g ≠ w.heap.size; omega)]
        have HLOW : Hid (Below w.heap.size w wr) := hRW.low
        obtain ⟨p, hp⟩ : ∃ p, progF all = p := ⟨_, rfl⟩
        obtain ⟨q, hq⟩ : ∃ q, outF all = q := ⟨_, rfl⟩
        obtain ⟨b, hb⟩ : ∃ b, bigL (progF all).fs = b := ⟨_, rfl⟩
        rw [hb] at hbq ⊢
        rw [hp] at hend hbq d1 d2 d3 hfl hfb HFW
        rw [hq] at hend hout0 c3
        rw [hbq] at hend
        have HEQ : Hid (parseF l = if (b || decide (12 < p.fs.length)) = true then (pr0, 0, 2) else if q ≠ 0 then (pr0, q, 3) else (p, 0, 0)) := hend
        rw [← hfl] at HEQ hfb
        clear hRW hRI hbq hp hq hb hend hfl HBAD HEND hbox hmu hRd
        by_cases hbig : b = true ∨ 12 < fl
        · have HPR2 : Hid (ParsePost l w (.returned (.tuple #[.agg #[.slice none 0 0, .int .i64 0, .int .i64 0, .int .i64 0], .int .i64 0, .int .i64 2])) ((((wr.setCell ⟨w.heap.size, 0, none⟩ (.slice none 0 0)).setCell ⟨w.heap.size, 1, none⟩ (.int .i64 0)).setCell ⟨w.heap.size, 2, none⟩ (.int .i64 0)).setCell ⟨w.heap.size, 3, none⟩ (.int .i64 0))) := parse_none (by rw [HEQ.out, if_pos (by simpa using hbig)]) (zero_below HLOW.out)
          clear HEQ HFW HLOW
          cases b with
          | true =>
            go_wp2_with fail
            exact bodyPost_ret (v := .tuple #[.agg #[.slice none 0 0, .int .i64 0, .int .i64 0, .int .i64 0], .int .i64 0, .int .i64 2]) (by simp [results, Tryd.results10, go_sem, o0, o1, o2, o3]) rfl HPR2.out
          | false =>
            have h12 : decide ((12 : Int) < (fl : Int)) = true := by simp at hbig ⊢; omega
            go_wp2_with fail
            exact bodyPost_ret (v := .tuple #[.agg #[.slice none 0 0, .int .i64 0, .int .i64 0, .int .i64 0], .int .i64 0, .int .i64 2]) (by simp [results, Tryd.results10, go_sem, o0, o1, o2, o3]) rfl HPR2.out
        · have hbf : b = false := by
            cases b with
            | true => simp at hbig
            | false => rfl
          subst hbf
          have h12 : decide ((12 : Int) < (fl : Int)) = false := by simp at hbig ⊢; omega
          have HEQ2 : Hid (parseF l = if q ≠ 0 then (pr0, q, 3) else (p, 0, 0)) := by show _ = _; rw [HEQ.out, if_neg (by simpa using hbig)]
          clear HEQ hbig
          by_cases hq0 : q = 0
          · subst hq0
            have HPR2 : Hid (ParsePost l w (.returned (.tuple #[.agg #[.slice fa fl fc, .int .i64 p.futs, .int .i64 p.depth, .int .i64 p.fuel], .int .i64 0, .int .i64 0])) ((((wr.setCell ⟨w.heap.size, 0, none⟩ (.slice fa fl fc)).setCell ⟨w.heap.size, 1, none⟩ (.int .i64 p.futs)).setCell ⟨w.heap.size, 2, none⟩ (.int .i64 p.depth)).setCell ⟨w.heap.size, 3, none⟩ (.int .i64 p.fuel))) := parse_some (by rw [HEQ2.out]; simp) HFW.out ((((HLOW.out.setCell (by simp) _).setCell (by simp) _).setCell (by simp) _).setCell (by simp) _)
            clear HEQ2 HFW HLOW
            go_wp2_with fail
            exact bodyPost_ret (v := .tuple #[.agg #[.slice fa fl fc, .int .i64 p.futs, .int .i64 p.depth, .int .i64 p.fuel], .int .i64 0, .int .i64 0]) (by simp [results, Tryd.results10, go_sem, o0, o1, o2, o3]) rfl HPR2.out
          · have hq1 : decide ((0 : Int) < q) = true := by simp; omega
            have hpe : parseF l = (pr0, q, 3) := by rw [HEQ2.out, if_pos hq0]
            have HPE : Hid (∀ W, Below w.heap.size w W → ParsePost l w (.returned (.tuple #[.agg #[.slice none 0 0, .int .i64 0, .int .i64 0, .int .i64 0], .int .i64 q, .int .i64 3])) W) := fun W hb => parse_none hpe hb
            have HZ : Hid (Below w.heap.size w ((((wr.setCell ⟨w.heap.size, 0, none⟩ (.slice none 0 0)).setCell ⟨w.heap.size, 1, none⟩ (.int .i64 0)).setCell ⟨w.heap.size, 2, none⟩ (.int .i64 0)).setCell ⟨w.heap.size, 3, none⟩ (.int .i64 0))) := zero_below HLOW.out
            clear HEQ2 HFW HLOW hpe hq0
            go_wp2_with fail
            go_region
            all_goals
              go_wp2_with fail
              exact bodyPost_ret (v := .tuple #[.agg #[.slice none 0 0, .int .i64 0, .int .i64 0, .int .i64 0], .int .i64 q, .int .i64 3]) (by simp [results, Tryd.results10, go_sem, o0, o1, o2, o3]) rfl (HPE.out _ HZ.out.drew)
  · have o0 := cell_of_row _ _ 0 _ _ _ hres
    have o1 := cell_of_row _ _ 1 _ _ _ hres
    have o2 := cell_of_row _ _ 2 _ _ _ hres
    have o3 := cell_of_row _ _ 3 _ _ _ hres
    have f0 := frozen_of_row _ _ 0 _ _ hres
    have f1 := frozen_of_row _ _ 1 _ _ hres
    have f2 := frozen_of_row _ _ 2 _ _ hres
    have f3 := frozen_of_row _ _ 3 _ _ hres
    simp at o0 o1 o2 o3
    have e1 : (y != 0) = true := by simpa using hy
    have hp : parseF l = (pr0, x, y) := by rw [HPP.out, if_pos hy]
    have HP2 : Hid (ParsePost l w (.returned (.tuple #[.agg #[.slice none 0 0, .int .i64 0, .int .i64 0, .int .i64 0], .int .i64 x, .int .i64 y])) ((((w1.setCell ⟨w.heap.size, 0, none⟩ (.slice none 0 0)).setCell ⟨w.heap.size, 1, none⟩ (.int .i64 0)).setCell ⟨w.heap.size, 2, none⟩ (.int .i64 0)).setCell ⟨w.heap.size, 3, none⟩ (.int .i64 0))) := parse_none (w' := _) hp ((((hbw.setCell (by simp) _).setCell (by simp) _).setCell (by simp) _).setCell (by simp) _)
    clear hp HPP hb1 hbw hres hS
    go_wp2_with fail
    exact bodyPost_ret (v := .tuple #[.agg #[.slice none 0 0, .int .i64 0, .int .i64 0, .int .i64 0], .int .i64 x, .int .i64 y]) (by simp [results, Tryd.results10, go_sem, o0, o1, o2, o3]) rfl HP2.out
end Go.Proofs.YtnhogbgnnnniaaaDoor
