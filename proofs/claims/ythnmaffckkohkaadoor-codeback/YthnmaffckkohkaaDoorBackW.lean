/-
  The law CodeBack: its walk.
-/
import Derived.Test.YthnmaffckkohkaaDoorArgs2
import Derived.Test.YthnmaffckkohkaaDoorTurned
namespace Go.Proofs.YthnmaffckkohkaaDoor
open Go.RowKit
/-- Get of bytes that are no program's -/
theorem Get_none (s : ByteArray) (w : World) (hT : Tab w) (hno : ∀ P, Good P → ¬ s = strB (putB P)) :
    Calls Tryd.prog 14 #[.string s] w fun e w' => e = .returned (.tuple #[.agg #[.slice none 0 0, .int .i64 0, .int .i64 0, .int .i64 0], .int .i64 4]) ∧ Below w.heap.size w w' := by
  refine (Get_any s w hT).mono ?_
  rintro e w' ⟨hb, h⟩
  rcases h with ⟨P, fv, hP, hs, -, -⟩ | ⟨-, h⟩
  · exact absurd hs (hno P hP)
  · exact ⟨h, hb⟩
theorem cut_none {p : Pr} (hp : Good p) (i : Nat) (hi : i < (putB p).length) : ∀ P, Good P → ¬ (strB (putB p)).extract 0 i = strB (putB P) := by
  intro P hP h
  have h1 : ((strB (putB p)).extract 0 i).data.toList = (putB p).take i := by
    simp [ByteArray.data_extract, strB]
  rw [h, strB_data] at h1
  have h2 : putB p = putB P ++ (putB p).drop i := by rw [h1, List.take_append_drop]
  have h3 := congrArg List.length (put_free hP hp h2)
  simp at h3
  omega
theorem more_none {p : Pr} (hp : Good p) : ∀ P, Good P → ¬ strB (putB p) ++ ⟨#[0]⟩ = strB (putB P) := by
  intro P hP h
  have h1 : (strB (putB p) ++ ⟨#[0]⟩ : ByteArray).data.toList = putB p ++ [0] := by
    simp [ByteArray.data_append, strB]
  rw [h, strB_data] at h1
  have := put_free hp hP h1
  simp at this
set_option maxHeartbeats 2000000 in
theorem back_walk (p : Pr) (fv : Value) (s : ByteArray) (cut : Int) (w : World) (hT : Tab w) (hF : SlF w fv p.fs) (hl : p.fs.length ≤ maxLen) (hm : ∀ f ∈ p.fs, f.length ≤ maxLen) :
    Calls Tryd.prog 4 #[.agg #[fv, .int .i64 p.futs, .int .i64 p.depth, .int .i64 p.fuel], .string s, .int .i64 cut] w fun e w' => e = .returned (.bool true) ∧ Below w.heap.size w w' := by
  have hF0 := hF
  obtain ⟨fa, fc, rfl, -⟩ := hF0
  have hB1 := BoxedP.made hF
  have hb1 := below_alloc (Below.refl w.heap.size w) (.cells #[.slice fa p.fs.length fc, .int .i64 p.futs, .int .i64 p.depth, .int .i64 p.fuel] 24)
  clear hF
  go_enter Tryd.func4, Tryd.ntmps4
  go_wp2_with fail
  refine (few_any p _ _ hB1.fns hl hm).mono ?_
  rintro e w1 ⟨⟨r, rfl, hr⟩, hb2'⟩
  have hb2 := below_then hb1 hb2'
  have hB2 := hB1.kept hb2'
  clear hb2' hB1 hl hm
  by_cases hstop : r = false ∨ 3000 < s.size
  · have HR : Hid (r = true → p.fs.length ≤ 15 ∧ ∀ f ∈ p.fs, f.length ≤ 45) := hr
    clear hr
    rcases hstop with rfl | h3
    · go_wp2_with (go_at_call 10; refine (awake_any _ (hT.below hb2)).mono ?_; rintro e w2 ⟨rfl, hb3⟩)
      go_ret
      exact ⟨rfl, below_then hb2 hb3⟩
    · have hd : decide ((3000 : Int) < (s.size : Int)) = true := by simp; omega
      cases r
      · go_wp2_with (go_at_call 10; refine (awake_any _ (hT.below hb2)).mono ?_; rintro e w2 ⟨rfl, hb3⟩)
        go_ret
        exact ⟨rfl, below_then hb2 hb3⟩
      · go_wp2_with (go_at_call 10; refine (awake_any _ (hT.below hb2)).mono ?_; rintro e w2 ⟨rfl, hb3⟩)
        go_ret
        exact ⟨rfl, below_then hb2 hb3⟩
  · obtain rfl : r = true := by cases r <;> simp_all
    have h3 : ¬ 3000 < s.size := fun h => hstop (.inr h)
    have hd : decide ((3000 : Int) < (s.size : Int)) = false := by simp; omega
    obtain ⟨hn15, hf45⟩ := hr rfl
    clear hr hstop
    have hn : p.fs.length ≤ 1000000 := by omega
    have hm : ∀ f ∈ p.fs, f.length ≤ 1000000 := fun f hf => by have := hf45 f hf; omega
    obtain ⟨c0, c1, c2, c3⟩ := hB2.cells
    go_wp2_with fail
    refine (Put_any p _ _ (hT.below hb2) hB2.fns hn hm).mono ?_
    rintro e w2 ⟨rfl, hb3'⟩
    have hb3 := below_then hb2 hb3'
    have hB3 := hB2.kept hb3'
    clear hb3' hB2 c0 c1 c2 c3
    have HM : Hid (∀ f ∈ p.fs, f.length ≤ 1000000) := hm
    clear hf45 hm
    rcases putE_cases p with he | he | he
    · have hgood := good_of_code he
      rw [he, hgood.text]
      clear he
      have hS1 : 8 ≤ (strB (putB p)).size := by rw [strB_size]; exact putB_length p
      have hS2 : (strB (putB p)).size ≤ 7000 := by rw [strB_size]; exact putB_upper hgood
      go_wp2_with fail
      refine (Get_own p hgood _ (hT.below hb3)).mono ?_
      rintro e w3 ⟨hb4', ga, gc, rfl, hG⟩
      have hb4 := below_then hb3 hb4'
      have hB4 := hB3.kept hb4'
      have hC4 := BoxedP.made hG
      have hb5 := below_alloc hb4 (.cells #[.slice ga p.fs.length gc, .int .i64 p.futs, .int .i64 p.depth, .int .i64 p.fuel] 24)
      have hB5 := hB4.kept (below_alloc (Below.refl _ _) (.cells #[.slice ga p.fs.length gc, .int .i64 p.futs, .int .i64 p.depth, .int .i64 p.fuel] 24))
      clear hb4' hG hB3 hB4
      obtain ⟨c0, c1, c2, c3⟩ := hB5.cells
      obtain ⟨d0, d1, d2, d3⟩ := hC4.cells
      go_wp2_with fail
      refine (sameProg_any p p _ _ _ hC4.fns hB5.fns hgood.few' hgood.small' hgood.few' hgood.small').mono ?_
      rintro e w4 ⟨⟨r, rfl, hr⟩, hb6'⟩
      obtain rfl : r = true := hr.2 rfl
      have hb6 := below_then hb5 hb6'
      clear hr hb6' hB5 hC4 c0 c1 c2 c3 d0 d1 d2 d3
      generalize hS : strB (putB p) = S at *
      have HS : Hid (strB (putB p) = S) := hS
      clear hS
      obtain ⟨i, hiI⟩ : ∃ i : Nat, placeI cut (S.size : Int) = (i : Int) := ⟨(placeI cut S.size).toNat, by have := placeI_bd cut (S.size : Int) (by omega); omega⟩
      have hi : i < S.size := by have := placeI_bd cut (S.size : Int) (by omega); omega
      have hd8 : decide ((S.size : Int) < 8) = false := by simp; omega
      go_wp2_with fail
      refine (place_any _ _ _ (by omega) (by omega)).mono ?_
      rintro e w5 ⟨rfl, hw5⟩
      rw [hiI]
      subst hw5
      go_wp2_with fail
      have hcut := cut_none hgood i (by rw [← strB_size, HS.out]; exact hi)
      have hmore := more_none hgood
      rw [HS.out] at hcut hmore
      have HC : Hid (∀ P, Good P → ¬ S.extract 0 i = strB (putB P)) := hcut
      have HE : Hid (∀ P, Good P → ¬ S ++ ⟨#[0]⟩ = strB (putB P)) := hmore
      clear hcut hmore
      refine (Get_none _ _ (hT.below hb6) HC.out).mono ?_
      rintro e w6 ⟨rfl, hb7'⟩
      have hb7 := below_alloc (below_then hb6 hb7') (.cells #[.slice none 0 0, .int .i64 0, .int .i64 0, .int .i64 0] 24)
      clear hb7'
      go_wp2_with fail
      refine (Get_none _ _ (hT.below hb7) HE.out).mono ?_
      rintro e w7 ⟨rfl, hb8'⟩
      have hb8 := below_alloc (below_then hb7 hb8') (.cells #[.slice none 0 0, .int .i64 0, .int .i64 0, .int .i64 0] 24)
      clear hb8'
      go_wp2_with fail
      refine (Get_any _ _ (hT.below hb8)).mono ?_
      rintro e wa ⟨hba', h⟩
      have hba := below_then hb8 hba'
      clear hba'
      rcases h with ⟨q, gv, hq, hsq, rfl, hQ⟩ | ⟨hno, rfl⟩
      · have hQ0 := hQ
        obtain ⟨qa, qc, rfl, -⟩ := hQ0
        have hQ1 := BoxedP.made hQ
        have hbb := below_alloc hba (.cells #[.slice qa q.fs.length qc, .int .i64 q.futs, .int .i64 q.depth, .int .i64 q.fuel] 24)
        obtain ⟨e0, e1, e2, e3⟩ := hQ1.cells
        have hse := str_eq hsq.symm
        have HSQ : Hid (s = strB (putB q)) := hsq
        clear hsq hQ
        go_wp2_with fail
        refine (Put_own q hq _ _ (hT.below hbb) hQ1.fns).mono ?_
        rintro e wb ⟨rfl, hbc'⟩
        have hbc := below_then hbb hbc'
        clear hbc' e0 e1 e2 e3
        go_wp2_with (go_at_call 10; refine (awake_any _ (hT.below hbc)).mono ?_; rintro e wc ⟨rfl, hbd⟩)
        go_ret
        exact ⟨rfl, below_then hbc hbd⟩
      · clear hno
        have hbb := below_alloc hba (.cells #[.slice none 0 0, .int .i64 0, .int .i64 0, .int .i64 0] 24)
        go_wp2_with (go_at_call 10; refine (awake_any _ (hT.below hbb)).mono ?_; rintro e wc ⟨rfl, hbd⟩)
        go_ret
        exact ⟨rfl, below_then hbb hbd⟩
    · rw [he]
      clear he
      go_wp2_with fail
      refine (Get_any _ _ (hT.below hb3)).mono ?_
      rintro e wa ⟨hba', h⟩
      have hba := below_then hb3 hba'
      clear hba'
      rcases h with ⟨q, gv, hq, hsq, rfl, hQ⟩ | ⟨hno, rfl⟩
      · have hQ0 := hQ
        obtain ⟨qa, qc, rfl, -⟩ := hQ0
        have hQ1 := BoxedP.made hQ
        have hbb := below_alloc hba (.cells #[.slice qa q.fs.length qc, .int .i64 q.futs, .int .i64 q.depth, .int .i64 q.fuel] 24)
        obtain ⟨e0, e1, e2, e3⟩ := hQ1.cells
        have hse := str_eq hsq.symm
        have HSQ : Hid (s = strB (putB q)) := hsq
        clear hsq hQ
        go_wp2_with fail
        refine (Put_own q hq _ _ (hT.below hbb) hQ1.fns).mono ?_
        rintro e wb ⟨rfl, hbc'⟩
        have hbc := below_then hbb hbc'
        clear hbc' e0 e1 e2 e3
        go_wp2_with (go_at_call 10; refine (awake_any _ (hT.below hbc)).mono ?_; rintro e wc ⟨rfl, hbd⟩)
        go_ret
        exact ⟨rfl, below_then hbc hbd⟩
      · clear hno
        have hbb := below_alloc hba (.cells #[.slice none 0 0, .int .i64 0, .int .i64 0, .int .i64 0] 24)
        go_wp2_with (go_at_call 10; refine (awake_any _ (hT.below hbb)).mono ?_; rintro e wc ⟨rfl, hbd⟩)
        go_ret
        exact ⟨rfl, below_then hbb hbd⟩
    · rw [he]
      clear he
      go_wp2_with fail
      refine (Get_any _ _ (hT.below hb3)).mono ?_
      rintro e wa ⟨hba', h⟩
      have hba := below_then hb3 hba'
      clear hba'
      rcases h with ⟨q, gv, hq, hsq, rfl, hQ⟩ | ⟨hno, rfl⟩
      · have hQ0 := hQ
        obtain ⟨qa, qc, rfl, -⟩ := hQ0
        have hQ1 := BoxedP.made hQ
        have hbb := below_alloc hba (.cells #[.slice qa q.fs.length qc, .int .i64 q.futs, .int .i64 q.depth, .int .i64 q.fuel] 24)
        obtain ⟨e0, e1, e2, e3⟩ := hQ1.cells
        have hse := str_eq hsq.symm
        have HSQ : Hid (s = strB (putB q)) := hsq
        clear hsq hQ
        go_wp2_with fail
        refine (Put_own q hq _ _ (hT.below hbb) hQ1.fns).mono ?_
        rintro e wb ⟨rfl, hbc'⟩
        have hbc := below_then hbb hbc'
        clear hbc' e0 e1 e2 e3
        go_wp2_with (go_at_call 10; refine (awake_any _ (hT.below hbc)).mono ?_; rintro e wc ⟨rfl, hbd⟩)
        go_ret
        exact ⟨rfl, below_then hbc hbd⟩
      · clear hno
        have hbb := below_alloc hba (.cells #[.slice none 0 0, .int .i64 0, .int .i64 0, .int .i64 0] 24)
        go_wp2_with (go_at_call 10; refine (awake_any _ (hT.below hbb)).mono ?_; rintro e wc ⟨rfl, hbd⟩)
        go_ret
        exact ⟨rfl, below_then hbb hbd⟩
end Go.Proofs.YthnmaffckkohkaaDoor
