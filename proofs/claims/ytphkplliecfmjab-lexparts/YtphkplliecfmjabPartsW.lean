/-
  The law LexParts: its walk.
-/
import Derived.Test.YtphkplliecfmjabLines
namespace Go.Proofs.Ytphkplliecfmjab
open Go.RowKit

theorem tens_snoc (l : List UInt8) (c : UInt8) : tens (l ++ [c]) = tens l + (if c = 10 then 1 else 0) := by
  induction l with
  | nil => simp [tens]
  | cons x r ih => simp only [List.cons_append, tens, ih]; omega
theorem tens_le : ∀ l : List UInt8, tens l ≤ l.length
  | [] => Nat.le_refl _
  | c :: r => by
    have := tens_le r
    simp only [tens, List.length_cons]
    split <;> omega
theorem draws {B : Nat} {a w : World} (h : Below B a w) (n : Nat) : Below B a (w.drewN n) := ⟨h.os, h.tape, h.output, h.size, h.block⟩
theorem byte_at (l : List UInt8) (q : Nat) (h : q < l.length) (w : World) : (Instr.index 9 (.string (strB l)) (.int .i64 (q : Int))).run Try.prog w = .ok (.int .u8 (l[q].toNat : Int)) w := by
  have hs : (strB l).size = l.length := strB_size l
  have h0 : q < (strB l).size := by omega
  have h1 : (0 : Int) ≤ (q : Int) := by omega
  have h2 : (q : Int) < ((strB l).size : Int) := by omega
  have e : (strB l)[q]'h0 = l[q]'h := by simp [strB]; rfl
  have key : (Instr.index 9 (.string (strB l)) (.int .i64 (q : Int))).run Try.prog w = .ok (.int .u8 (((strB l)[q]'h0).toNat : Int)) w := by go_simp
  exact key.trans (by rw [e])
set_option maxHeartbeats 1000000 in
set_option maxRecDepth 4000 in
theorem parts_walk (s t : ByteArray) (w : World) : Calls Try.prog 3 #[.string s, .string t] w fun e w' => e = .returned (.bool true) ∧ Below w.heap.size w w' := by
  obtain ⟨sl, rfl⟩ : ∃ sl, s = strB sl := ⟨_, (strB_of s).symm⟩
  obtain ⟨tl, rfl⟩ : ∃ tl, t = strB tl := ⟨_, (strB_of t).symm⟩
  have zs : (strB sl).size = sl.length := strB_size sl
  have zt : (strB tl).size = tl.length := strB_size tl
  by_cases hs : sl.length ≤ 1500
  · have hds : decide ((1500 : Int) < (sl.length : Int)) = false := by simp; omega
    by_cases ht : tl.length ≤ 1500
    · have hdt : decide ((1500 : Int) < (tl.length : Int)) = false := by simp; omega
      have hP := lex_parts sl tl hs ht
      have hap1 : strB sl ++ (⟨#[10]⟩ : ByteArray) = strB (sl ++ [10]) := strB_append sl [10]
      have hap2 : strB (sl ++ [10]) ++ strB tl = strB (sl ++ [10] ++ tl) := strB_append (sl ++ [10]) tl
      have hsum : (strB (sl ++ [10])).size = sl.length + 1 := by rw [strB_size]; simp
      have lA := lexF_length sl
      have lB := lexF_length tl
      have gA := lexF_lines sl
      have gB := lexF_lines tl
      have gL := lexF_line tl
      have HT : Hid (tens sl ≤ 1500) := Nat.le_trans (tens_le _) hs
      obtain ⟨A, xA, eA, hA⟩ : ∃ A xA eA, lexF sl = (A, xA, eA) := ⟨_, _, _, rfl⟩
      obtain ⟨B, xB, eB, hB⟩ : ∃ A xA eA, lexF tl = (A, xA, eA) := ⟨_, _, _, rfl⟩
      obtain ⟨C, xC, eC, hC⟩ : ∃ A xA eA, lexF (sl ++ [10] ++ tl) = (A, xA, eA) := ⟨_, _, _, rfl⟩
      rw [hA] at hP lA gA
      rw [hB] at hP lB gB gL
      rw [hC] at hP
      have HLA : Hid (lexF sl = (A, xA, eA)) := hA
      have HLB : Hid (lexF tl = (B, xB, eB)) := hB
      have HLC : Hid (lexF (sl ++ [10] ++ tl) = (C, xC, eC)) := hC
      clear hA hB hC
      simp only at hP lA lB gA gB gL
      have HP : Hid ((eA ≠ 0 → eC = 3 ∧ C = []) ∧ (eA = 0 → eB ≠ 0 → eC = eB ∧ xC = xB + ((tens sl : Int) + 1)) ∧ (eA = 0 → eB = 0 → eC = 0 ∧ C = A ++ B.map (Tk.on ((tens sl : Int) + 1)))) := hP
      have GA : Hid (∀ t ∈ A, 1 ≤ t.l ∧ t.l ≤ 9000) := gA
      have GB : Hid (∀ t ∈ B, 1 ≤ t.l ∧ t.l ≤ 9000) := gB
      clear hP gA gB
      generalize sl ++ [10] ++ tl = cl at *
      generalize sl ++ [10] = dl at *
      go_enter Try.func3, Try.ntmps3
      go_wp2_with fail
      refine (All_l (l := sl) rfl _).mono ?_
      rintro e w1 ⟨aa, ac, he, hSA, hb1⟩
      rw [HLA.out] at he hSA
      simp only at he hSA
      subst he
      go_wp2_with fail
      refine (All_l (l := tl) rfl _).mono ?_
      rintro e w2 ⟨ba, bc, he, hSB, hb2'⟩
      rw [HLB.out] at he hSB
      simp only at he hSB
      subst he
      have hSA2 := hSA.kept hb2'
      have hb2 := below_then hb1 hb2'
      clear hSA hb1 hb2'
      go_wp2_with fail
      refine (All_l (l := cl) rfl _).mono ?_
      rintro e w3 ⟨ca, cc, he, hSC, hb3'⟩
      rw [HLC.out] at he hSC
      simp only at he hSC
      subst he
      have HSA : Hid (SlT w3 (.slice aa A.length ac) A) := hSA2.kept hb3'
      have HSB : Hid (SlT w3 (.slice ba B.length bc) B) := hSB.kept hb3'
      have HSC : Hid (SlT w3 (.slice ca C.length cc) C) := hSC
      have hb3 := below_then hb2 hb3'
      clear hSA2 hSB hSC hb2 hb3' hap1 hap2 hsum hds hdt HLA HLB HLC
      go_wp2_with fail
      go_loopw [14, 15] (fun lv iv wr => ∃ i : Nat, i ≤ sl.length ∧ iv = .int .i64 i ∧ lv = .int .i64 ((tens (sl.take i) : Int) + 1) ∧ wr = w3) (fun _ iv _ => sl.length - (intOf iv).toNat)
      case atStart => exact ⟨0, by omega, rfl, by simp [tens], rfl⟩
      case round =>
        obtain ⟨i, hi, rfl, rfl, rfl⟩ := hrel
        by_cases hlt : i < sl.length
        · have hby := fun wx => byte_at sl i hlt wx
          have hlt2 := hlt
          have hts := tens_snoc (sl.take i) sl[i]
          rw [← List.take_succ_eq_append_getElem hlt2] at hts
          have htl : tens (sl.take i) ≤ 1500 := Nat.le_trans (tens_le _) (by simp; omega)
          by_cases h10 : sl[i] = 10
          · have hz : ((sl[i].toNat : Int) == 10) = true := by rw [h10]; rfl
            rw [if_pos h10] at hts
            have HTS : Hid (tens (sl.take (i + 1)) = tens (sl.take i) + 1) := hts
            clear hts h10
            generalize sl[i].toNat = bz at *
            generalize htz : tens (sl.take i) = tz at *
            go_wp2_with fail
            go_roundw
            case rel => exact ⟨i + 1, by omega, by go_num, by rw [HTS.out]; go_num, trivial⟩
            case measure => simp [intOf]; omega
          · have hz : ((sl[i].toNat : Int) == 10) = false := by
              have : ¬ sl[i].toNat = 10 := fun e => h10 (UInt8.toNat.inj (by simpa using e))
              simp
              omega
            rw [if_neg h10] at hts
            have HTS : Hid (tens (sl.take (i + 1)) = tens (sl.take i) + 0) := hts
            clear hts h10
            generalize sl[i].toNat = bz at *
            generalize htz : tens (sl.take i) = tz at *
            go_wp2_with fail
            go_roundw
            case rel => exact ⟨i + 1, by omega, by go_num, by rw [HTS.out]; go_num, trivial⟩
            case measure => simp [intOf]; omega
        · obtain rfl : i = sl.length := by omega
          have htk : sl.take sl.length = sl := List.take_length
          rw [htk]
          obtain ⟨hp1, hp2, hp3⟩ := HP.out
          have HT2 : tens sl ≤ 1500 := HT.out
          clear HP HT htk hlt hi
          generalize tens sl = tz at *
          by_cases hA0 : eA = 0
          · have tA : (eA != 0) = false := by simp [hA0]
            by_cases hB0 : eB = 0
            · have tB : (eB != 0) = false := by simp [hB0]
              obtain ⟨hC0, hCC⟩ := hp3 hA0 hB0
              have tC : (eC != 0) = false := by simp [hC0]
              have hlen : C.length = A.length + B.length := by rw [hCC]; simp
              have tl1 : ((C.length : Int) != (A.length : Int) + (B.length : Int)) = false := by simp; omega
              have HCC : Hid (C = A ++ B.map (Tk.on ((tz : Int) + 1))) := hCC
              have HLEN : Hid (C.length = A.length + B.length) := hlen
              clear hA0 hB0 hC0 hCC hp1 hp2 hp3 gL
              go_wp2_with fail
              obtain ⟨W, rfl⟩ : ∃ W, W = wr := ⟨wr, rfl⟩
              go_loopw [16] (fun iv wx => ∃ i : Nat, i ≤ C.length ∧ iv = .int .i64 i ∧ Below W.heap.size W wx) (fun iv _ => C.length - (intOf iv).toNat)
              case atStart => exact ⟨0, by omega, rfl, Below.refl _ _⟩
              case round =>
                obtain ⟨i, hi, rfl, hBl⟩ := hrel
                have hclen : C.length ≤ 40000 := by have := HLEN.out; omega
                by_cases hlt : i < C.length
                · obtain ⟨g, f, rfl, tC⟩ := (HSC.out.kept hBl).at hlt
                  by_cases hia : i < A.length
                  · obtain ⟨g2, f2, rfl, tA⟩ := (HSA.out.kept hBl).at hia
                    have hCi : C[i] = A[i] := by
                      simp only [HCC.out]
                      rw [List.getElem_append_left hia]
                    have hln := GA.out A[i] (List.getElem_mem hia)
                    rw [hCi] at tC
                    generalize A[i] = tk at *
                    have hw : IntKind.i64.wrap tk.l = tk.l := by simp [IntKind.wrap, IntKind.bits, IntKind.signed]; omega
                    have k1 := fun o : Obj => (tC.alloc o).k
                    have s1 := fun o : Obj => (tC.alloc o).s
                    have n1 := fun o : Obj => (tC.alloc o).n
                    have l1 := fun o : Obj => (tC.alloc o).l
                    have k2 := fun o : Obj => (tA.alloc o).k
                    have s2 := fun o : Obj => (tA.alloc o).s
                    have n2 := fun o : Obj => (tA.alloc o).n
                    have l2 := fun o : Obj => (tA.alloc o).l
                    have HB2 : Hid (∀ (o : Obj) (n : Nat), Below W.heap.size W ((World.alloc _ o).drewN n)) := fun o n => draws (below_alloc hBl o) n
                    clear tC tA hCi hBl
                    go_wp2_with fail
                    go_quiet (fail)
                    go_wp2_with fail
                    go_roundw
                    case rel => exact ⟨i + 1, by omega, by go_num, HB2.out _ _⟩
                    case measure => simp [intOf]; omega
                  · obtain ⟨j, rfl⟩ : ∃ j, i = A.length + j := ⟨i - A.length, by omega⟩
                    have hjb : j < B.length := by have := HLEN.out; omega
                    obtain ⟨g2, f2, rfl, tB⟩ := (HSB.out.kept hBl).at hjb
                    have hCi : C[A.length + j] = Tk.on ((tz : Int) + 1) B[j] := by
                      simp only [HCC.out]
                      rw [List.getElem_append_right (by omega)]
                      simp
                    have hln := GB.out B[j] (List.getElem_mem hjb)
                    rw [hCi] at tC
                    generalize B[j] = tk at *
                    have hw : IntKind.i64.wrap (tk.l + ((tz : Int) + 1)) = tk.l + ((tz : Int) + 1) := by simp [IntKind.wrap, IntKind.bits, IntKind.signed]; omega
                    have k1 : ∀ o : Obj, (wr.alloc o).cell? _ = some (.int .i64 tk.k) := fun o => (tC.alloc o).k
                    have s1 : ∀ o : Obj, (wr.alloc o).cell? _ = some (.string (strB tk.s)) := fun o => (tC.alloc o).s
                    have n1 : ∀ o : Obj, (wr.alloc o).cell? _ = some (.int .i64 tk.n) := fun o => (tC.alloc o).n
                    have l1 : ∀ o : Obj, (wr.alloc o).cell? _ = some (.int .i64 (tk.l + ((tz : Int) + 1))) := fun o => (tC.alloc o).l
                    have k2 := fun o : Obj => (tB.alloc o).k
                    have s2 := fun o : Obj => (tB.alloc o).s
                    have n2 := fun o : Obj => (tB.alloc o).n
                    have l2 := fun o : Obj => (tB.alloc o).l
                    have HB2 : Hid (∀ (o : Obj) (n : Nat), Below W.heap.size W ((World.alloc _ o).drewN n)) := fun o n => draws (below_alloc hBl o) n
                    clear tC tB hCi hBl
                    go_wp2_with fail
                    go_quiet (fail)
                    go_wp2_with fail
                    go_roundw
                    case rel => exact ⟨A.length + j + 1, by omega, by go_num, HB2.out _ _⟩
                    case measure => simp [intOf]; omega
                · obtain rfl : i = C.length := by omega
                  have hb4 := below_then hb3 hBl
                  clear hBl
                  go_wp2_with fail
                  refine (awake_any _).mono ?_
                  rintro e w5 ⟨rfl, hb'⟩
                  have hb5 := below_then hb4 hb'
                  go_wp2_with fail
                  go_ret
                  exact ⟨rfl, hb5⟩
            · have tB : (eB != 0) = true := by simp [hB0]
              obtain ⟨rfl, rfl⟩ := hp2 hA0 hB0
              have hw : IntKind.i64.wrap (xB + ((tz : Int) + 1)) = xB + ((tz : Int) + 1) := by simp [IntKind.wrap, IntKind.bits, IntKind.signed]; omega
              clear hA0 hB0 hp1 hp2 hp3 HSA HSB HSC GA GB
              go_wp2_with fail
              refine (awake_any _).mono ?_
              rintro e w5 ⟨rfl, hb'⟩
              have hb5 := below_then hb3 hb'
              go_wp2_with fail
              go_ret
              exact ⟨rfl, hb5⟩
          · have tA : (eA != 0) = true := by simp [hA0]
            obtain ⟨rfl, rfl⟩ := hp1 hA0
            clear hA0 hp1 hp2 hp3 HSA HSB HSC GA GB
            go_wp2_with fail
            refine (awake_any _).mono ?_
            rintro e w5 ⟨rfl, hb'⟩
            have hb5 := below_then hb3 hb'
            go_wp2_with fail
            go_ret
            exact ⟨rfl, hb5⟩
    · have hdt : decide ((1500 : Int) < (tl.length : Int)) = true := by simp; omega
      clear ht
      go_enter Try.func3, Try.ntmps3
      go_wp2_with fail
      refine (awake_any _).mono ?_
      rintro e w5 ⟨rfl, hb'⟩
      go_wp2_with fail
      go_ret
      exact ⟨rfl, hb'⟩
  · have hds : decide ((1500 : Int) < (sl.length : Int)) = true := by simp; omega
    clear hs
    go_enter Try.func3, Try.ntmps3
    go_wp2_with fail
    refine (awake_any _).mono ?_
    rintro e w5 ⟨rfl, hb'⟩
    go_wp2_with fail
    go_ret
    exact ⟨rfl, hb'⟩
end Go.Proofs.Ytphkplliecfmjab
