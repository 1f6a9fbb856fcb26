/-
  Helpers: LnW.
-/
import Derived.Test.YtdpagipbaddnfaaDoorAsmLinesBun29
import Derived.Test.YtdpagipbaddnfaaDoorAsmLinesBun31
import Derived.Test.YtdpagipbaddnfaaDoorAsmLinesBun23
import Derived.Test.YtdpagipbaddnfaaDoorAsmLinesBun14
namespace Go.Proofs.YtdpagipbaddnfaaDoor
open Go.RowKit L3
open C2 (In Pr Tab NumsIn BoxedP OkPr)

/-- a row of strings under way -/
def strs (ls : List (List UInt8)) : List Value := ls.map fun l => .string (strB l)
structure SRow (w wr : World) (lv : Value) (ls : List (List UInt8)) : Prop where
  low : Below w.heap.size w wr
  row : wr.ownsRow w.heap.size 9 1 lv ls.length (strs ls)
theorem SRow.push {w wr w' : World} {lv : Value} {ls : List (List UInt8)} {x : List UInt8} {g cap : Nat} (h : SRow w wr lv ls) (o : Obj) (hg : (wr.alloc o).grownBy w' lv.ownBlock)
    (ho : w'.ownsRow w.heap.size 9 1 (.slice (some ⟨g, 0, none⟩) (ls.length + 1) cap) (ls.length + 1) (strs ls ++ [.string (strB x)])) : SRow w w' (.slice (some ⟨g, 0, none⟩) (ls.length + 1) cap) (ls ++ [x]) := by
  have ha := h.low.alloc h.low.size o
  refine ⟨ha.trans ⟨hg.os, hg.tape, hg.output, hg.size, fun k hk => hg.block k (by have := ha.size; omega) fun e => ?_⟩, ?_⟩
  · have := (h.row.lt k e.symm).1
    omega
  · rw [List.length_append]
    have e : strs (ls ++ [x]) = strs ls ++ [.string (strB x)] := by simp [strs]
    rw [e]
    exact ho
theorem SRow.at {w wr : World} {lv : Value} {ls : List (List UInt8)} (h : SRow w wr lv ls) {i : Nat} (hi : i < ls.length) : ∃ g c, lv = .slice (some ⟨g, 0, none⟩) ls.length c ∧ wr.cell? ⟨g, i, none⟩ = some (.string (strB ls[i])) := by
  rcases h.row.2 with ⟨rfl, h0⟩ | ⟨g, cap, cur, rfl, _⟩
  · omega
  · refine ⟨g, cap, rfl, ?_⟩
    rw [h.row.cellAt i (by omega)]
    simp [strs, hi]
theorem infoStr : (Tryd.prog.info? 9).map (fun i => (i.zero, i.size, i.bytes)) = some (some (.string ⟨#[]⟩), 1, 16) := by kernel_rfl
/-- a text's scan, at the place i -/
structure ScAt (T : List UInt8) (i : Nat) (d : List (List UInt8)) (c : List UInt8) (fr : Nat) : Prop where
  sc : scanF ([], []) (T.take i) = (d, c)
  fr : fr + c.length = i
  few : d.length ≤ i
theorem sc0 (T : List UInt8) : ScAt T 0 [] [] 0 := ⟨by simp [scanF], rfl, by simp⟩
theorem ScAt.step {T : List UInt8} {i : Nat} {d : List (List UInt8)} {c : List UInt8} {fr : Nat} (h : ScAt T i d c fr) (hi : i < T.length) (h10 : ¬ T[i] = 10) : ScAt T (i + 1) d (c ++ [T[i]]) fr := by
  refine ⟨?_, by have := h.fr; simp; omega, by have := h.few; omega⟩
  rw [List.take_succ_eq_append_getElem hi, scan_app, h.sc]
  simp [scanF, scan1, h10]
theorem ScAt.ten {T : List UInt8} {i : Nat} {d : List (List UInt8)} {c : List UInt8} {fr : Nat} (h : ScAt T i d c fr) (hi : i < T.length) (h10 : T[i] = 10) : ScAt T (i + 1) (d ++ [c ++ [10]]) [] (i + 1) ∧ seg T fr (i + 1) = c ++ [10] := by
  constructor
  · refine ⟨?_, by simp, by have := h.few; simp; omega⟩
    rw [List.take_succ_eq_append_getElem hi, scan_app, h.sc]
    simp [scanF, scan1, h10]
  · have hf := scan_flat (T.take i) ([], [])
    rw [h.sc] at hf
    simp at hf
    have hl := congrArg List.length hf
    rw [List.length_append, List.length_take] at hl
    have h2 := h.fr
    have e : T = d.flatten ++ (c ++ (T[i] :: T.drop (i + 1))) := by
      rw [← List.append_assoc, hf, ← List.drop_eq_getElem_cons hi, List.take_append_drop]
    have e2 : T.drop fr = c ++ (T[i] :: T.drop (i + 1)) := by
      have hfr : fr = d.flatten.length := by omega
      have := congrArg (List.drop fr) e
      rw [hfr, List.drop_left] at this
      rw [hfr]
      exact this
    unfold seg
    rw [e2, h10, show i + 1 - fr = c.length + 1 by omega, show c ++ ((10 : UInt8) :: T.drop (i + 1)) = (c ++ [10]) ++ T.drop (i + 1) by simp]
    exact List.take_left' (by simp)
theorem ScAt.done {T : List UInt8} {d : List (List UInt8)} {c : List UInt8} {fr : Nat} (h : ScAt T T.length d c fr) {ls : List (List UInt8)} (hT : T = ls.flatten) (hl : ∀ x ∈ ls, Lined x) : d = ls := by
  have h1 := h.sc
  rw [List.take_length, hT, scan_lines ls [] hl] at h1
  simp at h1
  exact h1.1.symm
def badS4 (k : Nat) : List UInt8 := [[104, 111, 112, 10], [114, 101, 116, 32, 48, 44, 32, 48, 10], [114, 101, 116, 10], [99, 111, 110, 115, 116, 32, 48, 32, 49, 10]].getD k []
theorem badS4_x (k : Nat) (hk : k < 4) : badS4 k = (badW k).x := by
  rcases (by omega : k = 0 ∨ k = 1 ∨ k = 2 ∨ k = 3) with rfl | rfl | rfl | rfl <;> simp [badS4, badW, wl, lnB, opsB, moreB, sp1, decB, signL, decN, bad4]
theorem bad4_index (k : Nat) (hk : k < 4) (w : World) : (Instr.index 38 (.agg #[.string ⟨#[104, 111, 112, 10]⟩, .string ⟨#[114, 101, 116, 32, 48, 44, 32, 48, 10]⟩, .string ⟨#[114, 101, 116, 10]⟩, .string ⟨#[99, 111, 110, 115, 116, 32, 48, 32, 49, 10]⟩]) (.int .i64 (k : Int))).run Tryd.prog w = .ok (.string (strB (badW k).x)) w := by
  rw [← badS4_x k hk]
  rcases (by omega : k = 0 ∨ k = 1 ∨ k = 2 ∨ k = 3) with rfl | rfl | rfl | rfl <;> kernel_rfl
/-- the lines, one of them turned, as far as i -/
def setT (ls : List (List UInt8)) (k : Nat) (b : List UInt8) (i : Nat) : List UInt8 := ((ls.set k b).take i).flatten
theorem setT_step {ls : List (List UInt8)} {k : Nat} {b : List UInt8} {i : Nat} (hi : i < ls.length) {S D : ByteArray} (hS : S = strB (setT ls k b i)) (hD : D = strB (if i = k then b else ls[i])) : Value.string (S ++ D) = .string (strB (setT ls k b (i + 1))) := by
  rw [hS, hD, strB_append]
  unfold setT
  rw [List.take_succ_eq_append_getElem (by simpa using hi)]
  simp only [List.flatten_append, List.flatten_cons, List.flatten_nil, List.append_nil]
  rw [List.getElem_set]
  by_cases h : k = i
  · rw [if_pos h.symm, if_pos h]
  · rw [if_neg (fun e => h e.symm), if_neg h]
theorem setT_done {ls : List (List UInt8)} {k : Nat} {b : List UInt8} : setT ls k b ls.length = (ls.set k b).flatten := by
  unfold setT
  rw [List.take_of_length_le (by simp)]
theorem flat_len {ls : List (List UInt8)} {m : Nat} (h : ∀ x ∈ ls, x.length ≤ m) : ls.flatten.length ≤ m * ls.length := by
  induction ls with
  | nil => simp
  | cons x r ih =>
    have h1 := h x (by simp)
    have h2 := ih fun y hy => h y (by simp [hy])
    rw [List.flatten_cons, List.length_append, List.length_cons, Nat.mul_add]
    omega
theorem setT_len {ls : List (List UInt8)} {k : Nat} {b : List UInt8} {i : Nat} (h : ∀ x ∈ ls, x.length ≤ 70) (hb : b.length ≤ 70) (hl : ls.length ≤ 51) : (setT ls k b i).length ≤ 3570 := by
  unfold setT
  have h1 := flat_len (ls := (ls.set k b).take i) (m := 70) fun x hx => by
    rcases List.mem_or_eq_of_mem_set (List.mem_of_mem_take hx) with h1 | rfl
    · exact h x h1
    · exact hb
  have h2 : ((ls.set k b).take i).length ≤ ls.length := by rw [List.length_take]; simp; omega
  omega
/-- all that the walk wants of its program -/
structure LnAt (p : Pr) (T : List UInt8) (ls : List (List UInt8)) : Prop where
  flat : T = ls.flatten
  lined : ∀ x ∈ ls, Lined x
  few : ls.length ≤ 51
  some : 3 ≤ ls.length
  short : ∀ x ∈ ls, x.length ≤ 70
  len : T.length ≤ 3570
  pos : 1 ≤ T.length
  bad : ∀ k m, k < ls.length → m < 4 → parseF (ls.set k (badW m).x).flatten = (pr0, (k : Int) + 1, 3)
  cut : parseF (T.take (T.length - 1)) = (p, 0, 0)
theorem lnAt {p : Pr} (h : OkPr p) : LnAt p (textP p) ((progL [] p).map Line.x) := by
  have hg := h.good
  have h3 := prog_few h []
  have hl : ∀ x ∈ (progL [] p).map Line.x, Lined x := fun x hx => by
    obtain ⟨s, hs, rfl⟩ := List.mem_map.1 hx
    exact prog_lined nilB hg s hs
  refine ⟨rfl, hl, by simpa using h3.2, by simpa using h3.1, fun x hx => ?_, prog_text_len h (by simp), ?_, fun k m hk hm => turned_told h (by simpa using hk) hm, cut_same h⟩
  · obtain ⟨s, hs, rfl⟩ := List.mem_map.1 hx
    exact prog_line_len (ex := []) (by simp) hg s hs
  · have hne : progL [] p ≠ [] := by simp [progL]
    obtain ⟨s, hs⟩ := List.exists_mem_of_ne_nil _ hne
    obtain ⟨b, hb, -⟩ := prog_lined (ex := []) nilB hg s hs
    have : (10 : UInt8) ∈ textP p := List.mem_flatten.2 ⟨s.x, List.mem_map.2 ⟨s, hs, rfl⟩, by rw [hb]; simp⟩
    exact List.length_pos_of_mem this
set_option maxRecDepth 4000 in
set_option maxHeartbeats 4000000 in
theorem lines_walk (nv : Value) (len : Nat) (x1 x2 : Int) (w : World) (hT : Tab w) (hF : FTab w) (hn : NumsIn w nv len) (hl : len ≤ 9223372036854775807) :
    Calls Tryd.prog 4 #[nv, .int .i64 x1, .int .i64 x2] w fun e w' => e = .returned (.bool true) ∧ Below w.heap.size w w' := by
  obtain ⟨ad, cap, rfl, hn1, hn2, hn3⟩ := hn
  by_cases h60 : 60 < len
  · have hd : decide ((60 : Int) < (len : Int)) = true := by simp; omega
    go_enter Tryd.func4, Tryd.ntmps4
    go_wp2_with (go_at_call 9; refine (awake_any _ hT hF).mono ?_; rintro e w1 ⟨rfl, hb1⟩)
    go_ret
    exact ⟨rfl, hb1⟩
  · have hd : decide ((60 : Int) < (len : Int)) = false := by simp; omega
    have hprog := C2.prog_any _ false w ⟨ad, len, cap, rfl, hn1, hn2, hn3⟩
    obtain ⟨i0, hi0, hz0, hz1, hz2⟩ := info_parts infoStr
    go_enter Tryd.func4, Tryd.ntmps4
    go_wp2_with fail
    refine hprog.mono ?_
    rintro e w1 ⟨p, fv, hok, rfl, hF1', hb1⟩
    have hF1 := hF1'
    obtain ⟨fa, fc, rfl, -⟩ := hF1'
    have hgood := hok.good
    have hB1 := BoxedP.made hF1
    have hb2 := below_alloc hb1 (.cells #[.slice fa p.fs.length fc, .int .i64 p.futs, .int .i64 p.depth, .int .i64 p.fuel] 24)
    have htx := RText_any p _ _ hB1.fns hgood.few' hgood.small'
    unfold RTextPost at htx
    have e0 : txtF p = textP p := by unfold txtF; rw [if_pos hgood.code]
    rw [e0] at htx
    obtain ⟨T, ls, hLT, hA⟩ : ∃ T ls, textP p = T ∧ LnAt p T ls := ⟨_, _, rfl, lnAt hok⟩
    rw [hLT] at htx
    have HA : Hid (LnAt p T ls) := hA
    have HG : Hid (C2.Good p) := hgood
    clear hF1 hprog hb1 e0 hLT hA hgood hok hn3
    go_wp2_with fail
    refine htx.mono ?_
    rintro e w2 ⟨rfl, hb2'⟩
    have hb3 := below_then hb2 hb2'
    have hB2 := hB1.kept hb2'
    have HB2 : Hid (BoxedP w2 w1.heap.size fa fc p) := hB2
    have HB3 : Hid (Below w.heap.size w w2) := hb3
    clear htx hb2 hb2' hB1 hB2 hb3
    have hTl := HA.out.len
    have hTs : (strB T).size = T.length := strB_size T
    go_wp2_with fail
    go_loopw [9, 10, 11] (fun lv fv iv wr => ∃ (i fr : Nat) (d : List (List UInt8)) (c : List UInt8), i ≤ T.length ∧ iv = .int .i64 i ∧ fv = .int .i64 fr ∧ SRow w2 wr lv d ∧ ScAt T i d c fr) (fun _ _ iv _ => T.length - (intOf iv).toNat)
    case atStart => exact ⟨0, 0, [], [], by omega, rfl, rfl, ⟨Below.refl _ _, World.ownsRow_nil _ _ _ _⟩, sc0 T⟩
    case round =>
      obtain ⟨i, fr, d, c, hi, rfl, rfl, hR, hS⟩ := hrel
      have HS : Hid (ScAt T i d c fr) := hS
      have hfr := hS.fr
      have hfw := hS.few
      clear hS
      by_cases hlt : i < T.length
      · have hby := fun wx => byteL T i hlt wx
        by_cases h10 : T[i] = 10
        · obtain ⟨hS2, hsg⟩ := HS.out.ten hlt h10
          have HS2 : Hid (ScAt T (i + 1) (d ++ [c ++ [10]]) [] (i + 1)) := hS2
          have hsl := fun wx => seg_slice T fr (i + 1) (by omega) (by omega) wx
          rw [hsg] at hsl
          simp only [show ((i + 1 : Nat) : Int) = (i : Int) + 1 from by omega] at hsl
          rw [h10] at hby
          clear hS2 hsg h10
          obtain ⟨X, hX⟩ : ∃ X, c ++ [10] = X := ⟨_, rfl⟩
          rw [hX] at hsl
          have HX : Hid (c ++ [10] = X) := hX
          clear hX
          go_wp2_with (at_builtin; refine wpList_append_lies _ rfl (.tmp 40) (.tmp 46) 36 rfl w2.heap.size 9 i0 (.string ⟨#[]⟩) 1 16 Tryd.underlying36 hi0 hz0 hz1 hz2 rfl (by decide) u9 d.length (strs d) rfl (hR.row.alloc _) ⟨wr.heap.size, 0, none⟩ 1 1 [.string (strB X)] ?c0 rfl (one_new _ _ _) ?c1 (by omega) ?c2 ?c3 ?c4 _ rfl ?_)
          case c0 => simp [Act.eval]
          case c1 => intro u hu; simp at hu; subst hu; rfl
          case c2 => unfold maxLen; omega
          case c3 => omega
          case c4 => have := hR.low.size; simp; omega
          intro g7 cap7 w7 hown7 hgrow7 hat7 hlt7
          have hR2 := hR.push (x := X) _ hgrow7 hown7
          clear hown7 hgrow7 hat7 hlt7
          go_wp2_with fail
          go_roundw
          case rel => exact ⟨i + 1, i + 1, d ++ [c ++ [10]], [], by omega, by go_num, by go_num, by rw [HX.out]; exact hR2, HS2.out⟩
          case measure => simp [intOf]; omega
        · have HS2 : Hid (ScAt T (i + 1) d (c ++ [T[i]]) fr) := HS.out.step hlt h10
          have hne : (((T[i].toNat : Nat) : Int) == 10) = false := by
            have : ¬ T[i].toNat = 10 := fun e => h10 (UInt8.toNat_inj.1 (by rw [e]; rfl))
            simp
            omega
          generalize T[i].toNat = z at hby hne
          clear h10
          go_wp2_with fail
          go_roundw
          case rel => exact ⟨i + 1, fr, d, _, by omega, by go_num, rfl, hR, HS2.out⟩
          case measure => simp [intOf]; omega
      · obtain rfl : i = T.length := by omega
        obtain rfl := HS.out.done HA.out.flat HA.out.lined
        have hsm := HA.out.some
        have hfw51 := HA.out.few
        obtain ⟨k, hk, hkl⟩ := place_nat x1 (d.length : Int) (by omega)
        have p1 := fun wx => L3.place_any x1 (d.length : Int) wx (by omega) (by omega)
        simp only [hk] at p1
        obtain ⟨m, hm, hm4⟩ := place_nat x2 4 (by omega)
        have p2 := fun wx => L3.place_any x2 4 wx (by omega) (by omega)
        simp only [hm] at p2
        have hidx := fun wx => bad4_index m (by omega) wx
        have hbl := badW_len m
        have hP1 := HA.out.bad k m (by omega) (by omega)
        have hP2 := HA.out.cut
        obtain ⟨B, hB⟩ : ∃ B, (badW m).x = B := ⟨_, rfl⟩
        rw [hB] at hidx hbl hP1
        have hlow := hR.low
        have HR : Hid (SRow w2 wr u9 d) := hR
        obtain ⟨ga, gc, hu9, -⟩ := hR.at (i := 0) (by omega)
        have HP1 : Hid (parseF (d.set k B).flatten = (pr0, (k : Int) + 1, 3)) := hP1
        have HP2 : Hid (parseF (T.take (T.length - 1)) = (p, 0, 0)) := hP2
        have HSL : Hid (∀ i, (setT d k B i).length ≤ 3570) := fun i => setT_len HA.out.short (by omega) hfw51
        have HLN : Hid (∀ x ∈ d, x.length ≤ 70) := HA.out.short
        have hTp := HA.out.pos
        subst hu9
        clear hB hk hm hR HS hP1 hP2 hfr hfw HA
        go_wp2_with fail
        refine (p1 _).mono ?_
        rintro e w3 ⟨rfl, hw3⟩
        subst hw3
        go_wp2_with fail
        refine (p2 _).mono ?_
        rintro e w4 ⟨rfl, hw4⟩
        subst hw4
        go_wp2_with fail
        clear p1 p2 hidx
        have hBs : (strB B).size ≤ 10 := by rw [strB_size]; exact hbl
        have he0 : Value.string ⟨#[]⟩ = .string (strB (setT d k B 0)) := by simp [setT]; rfl
        rw [he0]
        clear he0
        obtain ⟨W3, hW3⟩ : ∃ W, W = w4 := ⟨w4, rfl⟩
        subst hW3
        go_loop [14, 15] (fun tv iv => ∃ i : Nat, i ≤ d.length ∧ iv = .int .i64 i ∧ tv = .string (strB (setT d k B i))) (fun _ iv => d.length - (intOf iv).toNat)
        case atStart => exact ⟨0, by omega, rfl, rfl⟩
        case round =>
          obtain ⟨i, hi, rfl, rfl⟩ := hrel
          obtain ⟨S, hS⟩ : ∃ S, S = strB (setT d k B i) := ⟨_, rfl⟩
          have hz := str_len hS (HSL.out i)
          by_cases hlt : i < d.length
          · obtain ⟨ga', gc', he, hcell⟩ := HR.out.at hlt
            obtain ⟨rfl, rfl⟩ : ga' = ga ∧ gc' = gc := by simp at he; exact ⟨he.1.symm, he.2.symm⟩
            have hgl := block_lt_of_cell hcell
            have hx70 := HLN.out d[i] (List.getElem_mem hlt)
            by_cases hik : i = k
            · have HE : Hid (Value.string (S ++ strB B) = .string (strB (setT d k B (i + 1)))) := setT_step hlt hS (by rw [if_pos hik])
              have hb : ((i : Int) == (k : Int)) = true := by simp [hik]
              rw [← hS]
              clear hS he hik
              generalize strB B = SB at *
              go_wp2_with fail
              go_round
              case rel => exact ⟨i + 1, by omega, by go_num, HE.out⟩
              case measure => simp [intOf]; omega
            · have HE : Hid (Value.string (S ++ strB d[i]) = .string (strB (setT d k B (i + 1)))) := setT_step hlt hS (by rw [if_neg hik])
              have hb : ((i : Int) == (k : Int)) = false := by simp; omega
              have hsz : (strB d[i]).size ≤ 70 := by rw [strB_size]; exact hx70
              rw [← hS]
              clear hS he hik
              generalize strB d[i] = SD at *
              go_wp2_with fail
              go_round
              case rel => exact ⟨i + 1, by omega, by go_num, HE.out⟩
              case measure => simp [intOf]; omega
          · obtain rfl : i = d.length := by omega
            rw [setT_done] at hS ⊢
            have hbl3 := below_then HB3.out hlow
            have hPa := Parse_l hS W3 (hT.below hbl3) (hF.below hbl3)
            have hPb := fun (w' : World) (hb : Below w.heap.size w w') => Parse_any (T.take (T.length - 1)) w' (hT.below hb) (hF.below hb)
            unfold ParsePost at hPa hPb
            rw [HP1.out] at hPa
            rw [HP2.out] at hPb
            simp only [pr0] at hPa hPb
            have hcut := fun wx => cut_head T (T.length - 1) wx (by omega)
            simp only [show ((T.length - 1 : Nat) : Int) = (T.length : Int) - 1 from by omega] at hcut
            rw [← hS]
            have hBx := HB2.out.kept hlow
            have HBx : Hid (BoxedP W3 w1.heap.size fa fc p) := hBx
            have HW3 : Hid (Below w.heap.size w W3) := hbl3
            clear hS HP1 HP2 HSL HLN HR HB2 HB3 hlow hBx hbl3 hbl hBs hi hz
            obtain ⟨Y, hY⟩ : ∃ Y, strB (T.take (T.length - 1)) = Y := ⟨_, rfl⟩
            rw [hY] at hcut hPb
            clear hY
            go_wp2_with fail
            refine hPa.mono ?_
            rintro e w5 ⟨fa5, fl5, fc5, rfl, hS5, hb5⟩
            obtain ⟨rfl, _⟩ := slF_at hS5
            have hb6 := below_alloc (below_then HW3.out hb5) (.cells #[.slice fa5 0 fc5, .int .i64 0, .int .i64 0, .int .i64 0] 24)
            have hBx6 := HBx.out.kept (below_alloc hb5 (.cells #[.slice fa5 0 fc5, .int .i64 0, .int .i64 0, .int .i64 0] 24))
            have hPb2 := hPb _ hb6
            have HB6 : Hid (Below w.heap.size w (w5.alloc (.cells #[.slice fa5 0 fc5, .int .i64 0, .int .i64 0, .int .i64 0] 24))) := hb6
            have HX6 : Hid (BoxedP (w5.alloc (.cells #[.slice fa5 0 fc5, .int .i64 0, .int .i64 0, .int .i64 0] 24)) w1.heap.size fa fc p) := hBx6
            clear hPa hPb hS5 hb5 hb6 hBx6 HBx HW3
            simp only [List.length_nil]
            go_wp2_with fail
            refine hPb2.mono ?_
            rintro e w6 ⟨fa6, fl6, fc6, rfl, hS6, hb6'⟩
            have hl6 := (slF_at hS6).1
            subst hl6
            have hbq := below_alloc hb6' (.cells #[.slice fa6 p.fs.length fc6, .int .i64 p.futs, .int .i64 p.depth, .int .i64 p.fuel] 24)
            have hQ := BoxedP.made hS6
            have hPx := HX6.out.kept hbq
            have hbw := below_then HB6.out hbq
            clear hPb2 hcut HX6 HB6 hb6' hbq hS6
            obtain ⟨c0, c1, c2, c3⟩ := hPx.cells
            obtain ⟨d0, d1, d2, d3⟩ := hQ.cells
            have HPX : Hid (BoxedP _ w1.heap.size fa fc p) := hPx
            have HQX : Hid (BoxedP _ w6.heap.size fa6 fc6 p) := hQ
            have HBW : Hid (Below w.heap.size w (w6.alloc (.cells #[.slice fa6 p.fs.length fc6, .int .i64 p.futs, .int .i64 p.depth, .int .i64 p.fuel] 24))) := hbw
            clear hPx hQ hbw
            go_wp2_with fail
            refine (C2.sameProg_any p p _ _ _ HPX.out.fns HQX.out.fns HG.out.few' HG.out.small' HG.out.few' HG.out.small').mono ?_
            rintro e w7 ⟨⟨r, rfl, hr⟩, hb7⟩
            obtain rfl : r = true := hr.2 rfl
            have hPx := HPX.out.kept hb7
            have hQ := HQX.out.kept hb7
            obtain ⟨c0, c1, c2, c3⟩ := hPx.cells
            obtain ⟨d0, d1, d2, d3⟩ := hQ.cells
            have hbw := below_then HBW.out hb7
            have HPX : Hid (BoxedP w7 w1.heap.size fa fc p) := hPx
            have HQX : Hid (BoxedP w7 w6.heap.size fa6 fc6 p) := hQ
            have HBW : Hid (Below w.heap.size w w7) := hbw
            clear hr hb7 hPx hQ hbw
            go_wp2_with fail
            refine (C2.same_any p p _ _ _ HPX.out.fns HQX.out.fns HG.out.few' HG.out.small' HG.out.few' HG.out.small').mono ?_
            rintro e w8 ⟨⟨r, rfl, hr⟩, hb8⟩
            obtain rfl : r = true := hr.2 rfl
            have hbw := below_then HBW.out hb8
            have haw := awake_any w8 (hT.below hbw) (hF.below hbw)
            have HBW : Hid (Below w.heap.size w w8) := hbw
            clear hr hb8 hbw HPX HQX
            go_wp2_with (go_at_call 9; refine haw.mono ?_; rintro e w9 ⟨rfl, hb9⟩)
            go_ret
            exact ⟨rfl, below_then HBW.out hb9⟩
end Go.Proofs.YtdpagipbaddnfaaDoor
