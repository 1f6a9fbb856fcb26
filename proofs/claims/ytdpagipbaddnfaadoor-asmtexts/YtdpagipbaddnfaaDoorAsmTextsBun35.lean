/-
  Helpers: WdW.
-/
import Derived.Test.YtdpagipbaddnfaaDoorAsmTextsBun30
import Derived.Test.YtdpagipbaddnfaaDoorAsmTextsBun34
import Derived.Test.YtdpagipbaddnfaaDoorAsmTextsBun24
import Derived.Test.YtdpagipbaddnfaaDoorAsmTextsBun15
namespace Go.Proofs.YtdpagipbaddnfaaDoor
open Go.RowKit L3
open C2 (In Pr Tab NumsIn BoxedP OkPr)

theorem ex_index (k : Nat) (hk : k < 3) (w : World) : (Instr.index 47 (.agg #[.string ⟨#[]⟩, .string ⟨#[32]⟩, .string ⟨#[9, 32, 13]⟩]) (.int .i64 (k : Int))).run Tryd.prog w = .ok (.string (strB (exW k))) w := by
  rcases (by omega : k = 0 ∨ k = 1 ∨ k = 2) with rfl | rfl | rfl <;> kernel_rfl
theorem seg_one (T : List UInt8) (i : Nat) (h : i < T.length) : seg T i (i + 1) = [T[i]] := by
  unfold seg
  rw [List.drop_eq_getElem_cons h, show i + 1 - i = 1 by omega]
  rfl
theorem widen_step (ex T : List UInt8) (i : Nat) (h : i < T.length) : widen ex (T.take (i + 1)) = widen ex (T.take i) ++ widen1 ex T[i] := by
  rw [List.take_succ_eq_append_getElem h, widen_app]
  simp [widen]
theorem tens_step (T : List UInt8) (i : Nat) (h : i < T.length) : tensN (T.take (i + 1)) = tensN (T.take i) + if T[i] = 10 then 1 else 0 := by
  unfold tensN
  rw [List.take_succ_eq_append_getElem h, List.count_append]
  by_cases h1 : T[i] = 10
  · simp [h1]
  · simp [h1]
theorem tens_le (l : List UInt8) : tensN l ≤ l.length := List.count_le_length
theorem sum_step (fs : List (List In)) (i : Nat) (h : i < fs.length) : sumL (fs.take (i + 1)) = sumL (fs.take i) + fs[i].length := by
  have key : ∀ A f, sumL (A ++ [f]) = sumL A + f.length := fun A f => by simp [sumL]
  rw [List.take_succ_eq_append_getElem h, key]
structure WdAt (p : Pr) (T : List UInt8) (m : Nat) : Prop where
  len : T.length ≤ 3570
  cnt : tensN T = 3 + p.fs.length + sumL p.fs
  wl : ∀ i, (widen (exW m) (T.take i)).length ≤ 15000
  same : parseF ([10] ++ widen (exW m) T ++ endC) = (p, 0, 0)
theorem wdAt {p : Pr} (h : OkPr p) (m : Nat) : WdAt p (textP p) m := ⟨prog_text_len h (by simp), prog_count h.good, wide_len h m, wide_same h m⟩
theorem sum_le {p : Pr} (h : OkPr p) (i : Nat) : sumL (p.fs.take i) ≤ 44 := by
  have key : ∀ (fs : List (List In)), (∀ f ∈ fs, f.length ≤ 11) → sumL fs ≤ 11 * fs.length := by
    intro fs
    induction fs with
    | nil => intro _; simp [sumL]
    | cons f r ih =>
      intro hh
      have h1 := hh f (by simp)
      have h2 := ih fun g hg => hh g (by simp [hg])
      simp [sumL] at h2 ⊢
      omega
  have h1 := key (p.fs.take i) fun f hf => (h.fns f (List.mem_of_mem_take hf)).2.1
  have h2 : (p.fs.take i).length ≤ p.fs.length := by rw [List.length_take]; omega
  have h3 := h.few
  omega
set_option maxRecDepth 4000 in
set_option maxHeartbeats 4000000 in
theorem texts_walk (nv : Value) (len : Nat) (x1 : Int) (w : World) (hT : Tab w) (hF : FTab w) (hP : PTab w) (hn : NumsIn w nv len) (hl : len ≤ 9223372036854775807) :
    Calls Tryd.prog 7 #[nv, .int .i64 x1] w fun e w' => e = .returned (.bool true) ∧ Below w.heap.size w w' := by
  obtain ⟨ad, cap, rfl, hn1, hn2, hn3⟩ := hn
  have hp0 : 2 < w.heap.size := block_lt_of_cell (Lib.TabIs.cell hP gPow 0 (by decide))
  by_cases h60 : 60 < len
  · have hd : decide ((60 : Int) < (len : Int)) = true := by simp; omega
    go_enter Tryd.func7, Tryd.ntmps7
    go_wp2_with (go_at_call 9; refine (awake_any _ hT hF).mono ?_; rintro e w1 ⟨rfl, hb1⟩)
    go_ret
    exact ⟨rfl, hb1⟩
  · have hd : decide ((60 : Int) < (len : Int)) = false := by simp; omega
    have hprog := C2.prog_any _ true w ⟨ad, len, cap, rfl, hn1, hn2, hn3⟩
    obtain ⟨m, hm, hm3⟩ := place_nat x1 3 (by omega)
    have p1 := fun wx => L3.place_any x1 3 wx (by omega) (by omega)
    simp only [hm] at p1
    have hidx := fun wx => ex_index m (by omega) wx
    have hexl := (exW_ok m).2
    go_enter Tryd.func7, Tryd.ntmps7
    go_wp2_with fail
    refine hprog.mono ?_
    rintro e w1 ⟨p, fv, hok, rfl, hF1', hb1⟩
    have hF1 := hF1'
    obtain ⟨fa, fc, rfl, -⟩ := hF1'
    have hgood := hok.good
    have hB1 := BoxedP.made hF1
    have hb2 := below_alloc hb1 (.cells #[.slice fa p.fs.length fc, .int .i64 p.futs, .int .i64 p.depth, .int .i64 p.fuel] 24)
    have htx := Text_any p _ _ (hT.below hb2) (hF.below hb2) (hP.low hb2 hp0) hB1.fns hgood.few' hgood.small'
    unfold TextPost at htx
    have e0 : txtF p = textP p := by unfold txtF; rw [if_pos hgood.code]
    rw [e0] at htx
    obtain ⟨T, hLT, hA⟩ : ∃ T, textP p = T ∧ WdAt p T m := ⟨_, rfl, wdAt hok m⟩
    rw [hLT] at htx
    have HA : Hid (WdAt p T m) := hA
    have HG : Hid (C2.Good p) := hgood
    have HOK : Hid (OkPr p) := hok
    have hfew := hok.few
    clear hF1 hprog hb1 e0 hLT hA hgood hok hn3
    go_wp2_with fail
    refine htx.mono ?_
    rintro e w2 ⟨rfl, hb2'⟩
    have hb3 := below_then hb2 hb2'
    have hB2 := hB1.kept hb2'
    obtain ⟨d0, -, -, -⟩ := hB2.cells
    have hdl := block_lt_of_cell d0
    have HB2 : Hid (BoxedP w2 w1.heap.size fa fc p) := hB2
    have HB3 : Hid (Below w.heap.size w w2) := hb3
    clear htx hb2 hb2' hB1 hB2 hb3
    have hTl := HA.out.len
    have hTs : (strB T).size = T.length := strB_size T
    go_wp2_with fail
    go_quiet (fail)
    go_wp2_with fail
    have hbq : Below w2.heap.size w2 (w2.drewN nq) := C2.below_drewN (Below.refl _ _) nq
    have HBW : Hid (Below w.heap.size w (w2.drewN nq)) := below_then HB3.out hbq
    have HBX : Hid (BoxedP (w2.drewN nq) w1.heap.size fa fc p) := HB2.out.kept hbq
    generalize hW3 : w2.drewN nq = W3 at *
    clear hW3 hbq d0 hdl HB2 HB3
    go_loop [8, 9] (fun wv iv => ∃ i : Nat, i ≤ p.fs.length ∧ iv = .int .i64 i ∧ wv = .int .i64 (3 + (p.fs.length : Int) + (sumL (p.fs.take i) : Int))) (fun _ iv => p.fs.length - (intOf iv).toNat)
    case atStart => exact ⟨0, by omega, rfl, by simp [sumL]⟩
    case round =>
      obtain ⟨i, hi, rfl, rfl⟩ := hrel
      have hsl := sum_le HOK.out i
      obtain ⟨d0, -, -, -⟩ := HBX.out.cells
      have hdl := block_lt_of_cell d0
      by_cases hlt : i < p.fs.length
      · obtain ⟨fa', fc', he, hfx⟩ := HBX.out.fns
        obtain ⟨rfl, rfl⟩ : fa' = fa ∧ fc' = fc := by simp at he; exact ⟨he.1.symm, he.2.symm⟩
        clear he
        obtain ⟨g, f, u, rfl, hc, xa, xc, rfl, hI⟩ := hfx i hlt
        have hgl := block_lt_of_cell hc
        have hfl := (HOK.out.fns _ (List.getElem_mem hlt)).2.1
        have HST : Hid (sumL (p.fs.take (i + 1)) = sumL (p.fs.take i) + p.fs[i].length) := sum_step p.fs i hlt
        clear hfx hI
        generalize p.fs[i].length = fl at *
        generalize sumL (p.fs.take i) = sm at *
        go_wp2_with fail
        go_round
        case rel => exact ⟨i + 1, by omega, by go_num, by rw [HST.out]; go_num⟩
        case measure => simp [intOf]; omega
      · obtain rfl : i = p.fs.length := by omega
        rw [List.take_length] at hsl ⊢
        have HCN : Hid (tensN T = 3 + p.fs.length + sumL p.fs) := HA.out.cnt
        generalize sumL p.fs = sm at *
        go_wp2_with fail
        have he0 : Value.string ⟨#[]⟩ = .string (strB (widen (exW m) (T.take 0))) := by simp [widen]; rfl
        have HE0 : Hid (Value.string ⟨#[]⟩ = .string (strB (widen (exW m) (T.take 0)))) := he0
        clear he0
        go_loop [7, 10, 11] (fun lv tv iv => ∃ i : Nat, i ≤ T.length ∧ iv = .int .i64 i ∧ lv = .int .i64 (tensN (T.take i) : Int) ∧ tv = .string (strB (widen (exW m) (T.take i)))) (fun _ _ iv => T.length - (intOf iv).toNat)
        case atStart => exact ⟨0, by omega, rfl, rfl, HE0.out⟩
        case round =>
          obtain ⟨i, hi, rfl, rfl, rfl⟩ := hrel
          clear HE0
          obtain ⟨S, hS⟩ : ∃ S, S = strB (widen (exW m) (T.take i)) := ⟨_, rfl⟩
          have hz := str_len hS (HA.out.wl i)
          have htl : tensN (T.take i) ≤ 3570 := by have h1 := tens_le (T.take i); have h2 : (T.take i).length ≤ T.length := by rw [List.length_take]; omega
                                                   omega
          by_cases hlt : i < T.length
          · have hby := fun wx => byteL T i hlt wx
            have hsg := fun wx => seg_slice T i (i + 1) (by omega) (by omega) wx
            rw [seg_one T i hlt] at hsg
            simp only [show ((i + 1 : Nat) : Int) = (i : Int) + 1 from by omega] at hsg
            have hws := widen_step (exW m) T i hlt
            have hts := tens_step T i hlt
            have hone : (strB [T[i]]).size = 1 := rfl
            have hze : (strB (exW m)).size ≤ 3 := by rw [strB_size]; exact hexl
            obtain ⟨c, hcT⟩ : ∃ c, c = T[i] := ⟨_, rfl⟩
            rw [← hcT] at hby hsg hws hts hone
            clear hcT
            by_cases h32 : c = 32
            · subst h32
              have HE : Hid (Value.string (S ++ strB [32] ++ strB (exW m)) = .string (strB (widen (exW m) (T.take (i + 1))))) := show Value.string (S ++ strB [32] ++ strB (exW m)) = .string (strB (widen (exW m) (T.take (i + 1)))) by rw [hws, hS, strB_append, strB_append]; simp [widen1]
              have HT : Hid (tensN (T.take (i + 1)) = tensN (T.take i)) := show tensN (T.take (i + 1)) = tensN (T.take i) by rw [hts]; simp
              rw [← hS]
              clear hS hws hts
              generalize strB (exW m) = SE at *
              generalize strB [(32 : UInt8)] = S1 at *
              generalize tensN (T.take i) = tn at *
              go_wp2_with fail
              refine (p1 _).mono ?_
              rintro e w5 ⟨rfl, hw5⟩
              subst hw5
              go_wp2_with fail
              go_round
              case rel => exact ⟨i + 1, by omega, by go_num, by rw [HT.out], HE.out⟩
              case measure => simp [intOf]; omega
            · have HE : Hid (Value.string (S ++ strB [c]) = .string (strB (widen (exW m) (T.take (i + 1))))) := show Value.string (S ++ strB [c]) = .string (strB (widen (exW m) (T.take (i + 1)))) by rw [hws, hS, strB_append]; simp [widen1, h32]
              have hne : (((c.toNat : Nat) : Int) == 32) = false := by
                have : ¬ c.toNat = 32 := fun e => h32 (UInt8.toNat_inj.1 (by rw [e]; rfl))
                simp
                omega
              by_cases h10 : c = 10
              · subst h10
                have HT : Hid (tensN (T.take (i + 1)) = tensN (T.take i) + 1) := show tensN (T.take (i + 1)) = tensN (T.take i) + 1 by rw [hts]; simp
                rw [← hS]
                clear hS hws hts h32
                generalize strB [(10 : UInt8)] = S1 at *
                generalize tensN (T.take i) = tn at *
                go_wp2_with fail
                go_round
                case rel => exact ⟨i + 1, by omega, by go_num, by rw [HT.out]; go_num, HE.out⟩
                case measure => simp [intOf]; omega
              · have HT : Hid (tensN (T.take (i + 1)) = tensN (T.take i)) := show tensN (T.take (i + 1)) = tensN (T.take i) by rw [hts]; simp [h10]
                have hne2 : (((c.toNat : Nat) : Int) == 10) = false := by
                  have : ¬ c.toNat = 10 := fun e => h10 (UInt8.toNat_inj.1 (by rw [e]; rfl))
                  simp
                  omega
                rw [← hS]
                clear hS hws hts h32 h10
                generalize strB [c] = S1 at *
                generalize c.toNat = z at *
                generalize tensN (T.take i) = tn at *
                go_wp2_with fail
                go_round
                case rel => exact ⟨i + 1, by omega, by go_num, by rw [HT.out], HE.out⟩
                case measure => simp [intOf]; omega
          · obtain rfl : i = T.length := by omega
            rw [List.take_length] at hS htl ⊢
            have hcat : ⟨#[10]⟩ ++ S ++ ⟨#[32, 35, 32, 101, 110, 100]⟩ = strB ([10] ++ widen (exW m) T ++ endC) := by rw [hS, ← strB_append, ← strB_append]; rfl
            have hPa := Parse_l hcat W3 (hT.below HBW.out) (hF.below HBW.out)
            unfold ParsePost at hPa
            rw [HA.out.same] at hPa
            simp only at hPa
            have hcn : ((tensN T : Nat) : Int) = 3 + (p.fs.length : Int) + (sm : Int) := by have := HCN.out; omega
            rw [hcn, ← hS]
            clear hS hcat p1 hidx htl hcn HCN
            go_wp2_with fail
            refine hPa.mono ?_
            rintro e w6 ⟨fa6, fl6, fc6, rfl, hS6, hb6'⟩
            have hl6 := (slF_at hS6).1
            subst hl6
            have hbq := below_alloc hb6' (.cells #[.slice fa6 p.fs.length fc6, .int .i64 p.futs, .int .i64 p.depth, .int .i64 p.fuel] 24)
            have hQ := BoxedP.made hS6
            have hPx := HBX.out.kept hbq
            have hbw := below_then HBW.out hbq
            clear hPa hb6' hbq hS6 d0 hdl
            obtain ⟨c0, c1, c2, c3⟩ := hPx.cells
            obtain ⟨d0, d1, d2, d3⟩ := hQ.cells
            have HPX : Hid (BoxedP (w6.alloc (.cells #[.slice fa6 p.fs.length fc6, .int .i64 p.futs, .int .i64 p.depth, .int .i64 p.fuel] 24)) w1.heap.size fa fc p) := hPx
            have HQX : Hid (BoxedP (w6.alloc (.cells #[.slice fa6 p.fs.length fc6, .int .i64 p.futs, .int .i64 p.depth, .int .i64 p.fuel] 24)) w6.heap.size fa6 fc6 p) := hQ
            have HBV : Hid (Below w.heap.size w (w6.alloc (.cells #[.slice fa6 p.fs.length fc6, .int .i64 p.futs, .int .i64 p.depth, .int .i64 p.fuel] 24))) := hbw
            clear hPx hQ hbw
            go_wp2_with fail
            refine (C2.sameProg_any p p _ _ _ HPX.out.fns HQX.out.fns HG.out.few' HG.out.small' HG.out.few' HG.out.small').mono ?_
            rintro e w7 ⟨⟨r, rfl, hr⟩, hb7⟩
            obtain rfl : r = true := hr.2 rfl
            have hbw := below_then HBV.out hb7
            have haw := awake_any w7 (hT.below hbw) (hF.below hbw)
            have HBU : Hid (Below w.heap.size w w7) := hbw
            clear hr hb7 hbw HPX HQX
            go_wp2_with (go_at_call 9; refine haw.mono ?_; rintro e w9 ⟨rfl, hb9⟩)
            go_ret
            exact ⟨rfl, below_then HBU.out hb9⟩
end Go.Proofs.YtdpagipbaddnfaaDoor
