/-
  The law LexBlanks: its walk.
-/
import Derived.Test.YtphkplliecfmjaaBlanksX
import Derived.Test.YtphkplliecfmjaaPlace
import Derived.Deep.RegionLaw
import Derived.BigQuiet
namespace Go.Proofs.Ytphkplliecfmjaa
open Go.RowKit

set_option maxHeartbeats 20000000 in
set_option maxRecDepth 4000 in
theorem blanks_walk (s : ByteArray) (a1 a2 : Int) (w : World) : Calls Try.prog 4 #[.string s, .int .i64 a1, .int .i64 a2] w fun e w' => e = .returned (.bool true) ∧ Below w.heap.size w w' := by
  obtain ⟨sl, rfl⟩ : ∃ sl, s = strB sl := ⟨_, (strB_of s).symm⟩
  have zs : (strB sl).size = sl.length := strB_size sl
  by_cases hs : sl.length ≤ 2000
  · have hds : decide ((2000 : Int) < (sl.length : Int)) = false := by simp; omega
    obtain ⟨A, xA, eA, hA⟩ : ∃ A xA eA, lexF sl = (A, xA, eA) := ⟨_, _, _, rfl⟩
    have HLA : Hid (lexF sl = (A, xA, eA)) := hA
    have lA := lexF_length sl
    have gA := lexF_lines sl
    rw [hA] at lA gA
    simp only at lA gA
    have GA : Hid (∀ t ∈ A, 1 ≤ t.l ∧ t.l ≤ 9000) := gA
    clear hA gA
    by_cases hA0 : eA = 0
    · subst hA0
      obtain ⟨p1, p2⟩ := placeI_bd a1 ((sl.length : Int) + 1) (by omega)
      have hpl := fun wx => place_any a1 ((sl.length : Int) + 1) wx (by omega) (by omega)
      obtain ⟨K, hK⟩ : ∃ K : Nat, placeI a1 ((sl.length : Int) + 1) = K := ⟨(placeI a1 ((sl.length : Int) + 1)).toNat, by omega⟩
      rw [hK] at hpl p1 p2
      have HPL : Hid (∀ wx, Calls Try.prog 11 #[.int .i64 a1, .int .i64 ((sl.length : Int) + 1)] wx fun e w' => e = .returned (.int .i64 (K : Int)) ∧ w' = wx) := hpl
      obtain ⟨q1, q2⟩ := placeI_bd a2 4 (by omega)
      have hpw := fun wx => place_any a2 4 wx (by omega) (by omega)
      obtain ⟨J, hJ⟩ : ∃ J : Nat, placeI a2 4 = J := ⟨(placeI a2 4).toNat, by omega⟩
      rw [hJ] at hpw q1 q2
      have HPW : Hid (∀ wx, Calls Try.prog 11 #[.int .i64 a2, .int .i64 4] wx fun e w' => e = .returned (.int .i64 (J : Int)) ∧ w' = wx) := hpw
      clear hpl hpw hK hJ
      go_enter Try.func4, Try.ntmps4
      go_wp2_with fail
      refine (All_l (l := sl) rfl _).mono ?_
      rintro e w1 ⟨aa, ac, he, hSA, hb1⟩
      rw [HLA.out] at he hSA
      simp only at he hSA
      subst he
      have HSA : Hid (SlT w1 (.slice aa A.length ac) A) := hSA
      clear hSA hds
      go_wp2_with fail
      refine (HPL.out _).mono ?_
      rintro e w2 ⟨rfl, rfl⟩
      clear HPL
      go_wp2_with fail
      go_loopw [10] (fun kv wr => ∃ k : Nat, k ≤ sl.length ∧ kv = .int .i64 k ∧ wr = w2) (fun kv _ => sl.length - (intOf kv).toNat)
      case atStart => exact ⟨K, by omega, rfl, rfl⟩
      case round =>
        obtain ⟨k, hk, rfl, rfl⟩ := hrel
        by_cases hgo : ∃ h : k < sl.length, sl[k] ≠ 10
        · obtain ⟨hlt, h10⟩ := hgo
          have hby := fun wx => byteL sl k hlt wx
          have hz : ((sl[k].toNat : Int) != 10) = true := by
            have : ¬ sl[k].toNat = 10 := fun e => h10 (UInt8.toNat.inj (by simpa using e))
            simp
            omega
          clear h10
          generalize sl[k].toNat = bz at *
          go_wp2_with fail
          go_roundw
          case rel => exact ⟨k + 1, by omega, by go_num, trivial⟩
          case measure => simp [intOf]; omega
        · have hq : sl.drop k = [] ∨ ∃ q', sl.drop k = 10 :: q' := by
            by_cases hlt : k < sl.length
            · right
              refine ⟨sl.drop (k + 1), ?_⟩
              rw [List.drop_eq_getElem_cons hlt]
              congr 1
              exact Classical.byContradiction fun h => hgo ⟨hlt, h⟩
            · left
              exact List.drop_eq_nil_of_le (by omega)
          have hlb := fun j hj => lex_blanks (sl.take k) (sl.drop k) j hj hq (by rw [List.take_append_drop]; exact hs) (by rw [List.take_append_drop, HLA.out])
          rw [List.take_append_drop, HLA.out] at hlb
          simp only at hlb
          have hcut1 := fun wx => cut_head sl k wx hk
          have hcut2 := fun wx => cut_tail sl k wx hk
          have zp : (strB (sl.take k)).size = (sl.take k).length := strB_size _
          have zq : (strB (sl.drop k)).size = (sl.drop k).length := strB_size _
          have lp : (sl.take k).length ≤ 2000 := by simp; omega
          have lq : (sl.drop k).length ≤ 2000 := by simp; omega
          have hgo2 : (k < sl.length ∧ ∃ bz : Nat, (∀ wx, (Instr.index 9 (.string (strB sl)) (.int .i64 (k : Int))).run Try.prog wx = .ok (.int .u8 (bz : Int)) wx) ∧ ((bz : Int) != 10) = false) ∨ k = sl.length := by
            by_cases hlt : k < sl.length
            · refine .inl ⟨hlt, sl[k].toNat, fun wx => byteL sl k hlt wx, ?_⟩
              have : sl[k] = 10 := Classical.byContradiction fun h => hgo ⟨hlt, h⟩
              rw [this]
              rfl
            · exact .inr (by omega)
          clear hgo hq
          generalize sl.take k = pl at *
          generalize sl.drop k = ql at *
          have hJ4 : J = 0 ∨ J = 1 ∨ J = 2 ∨ J = 3 := by omega
          have ha0 : strB pl ++ (⟨#[32]⟩ : ByteArray) = strB (pl ++ moreL 0) := strB_append pl (moreL 0)
          have ha1 : strB pl ++ (⟨#[32, 35, 32, 119, 111, 114, 100, 115, 44, 32, 53, 32, 58]⟩ : ByteArray) = strB (pl ++ moreL 1) := strB_append pl (moreL 1)
          have ha2 : strB pl ++ (⟨#[9, 13]⟩ : ByteArray) = strB (pl ++ moreL 2) := strB_append pl (moreL 2)
          have ha3 : strB pl ++ (⟨#[10]⟩ : ByteArray) = strB (pl ++ moreL 3) := strB_append pl (moreL 3)
          have b0 := strB_append (pl ++ moreL 0) ql
          have b1 := strB_append (pl ++ moreL 1) ql
          have b2 := strB_append (pl ++ moreL 2) ql
          have b3 := strB_append (pl ++ moreL 3) ql
          have y0 : (strB (pl ++ moreL 0)).size ≤ 2013 := by rw [strB_size, List.length_append, show (moreL 0).length = 1 from rfl]; omega
          have y1 : (strB (pl ++ moreL 1)).size ≤ 2013 := by rw [strB_size, List.length_append, show (moreL 1).length = 13 from rfl]; omega
          have y2 : (strB (pl ++ moreL 2)).size ≤ 2013 := by rw [strB_size, List.length_append, show (moreL 2).length = 2 from rfl]; omega
          have y3 : (strB (pl ++ moreL 3)).size ≤ 2013 := by rw [strB_size, List.length_append, show (moreL 3).length = 1 from rfl]; omega
          have hall : ∀ l, l = pl ++ moreL 0 ++ ql ∨ l = pl ++ moreL 1 ++ ql ∨ l = pl ++ moreL 2 ++ ql ∨ l = pl ++ moreL 3 ++ ql → ∃ C xC, lexF l = (C, xC, 0) ∧ Near A C := by
            have one : ∀ j, j < 4 → ∃ C xC, lexF (pl ++ moreL j ++ ql) = (C, xC, 0) ∧ Near A C := fun j hj => by
              obtain ⟨hC0, hN⟩ := hlb j hj
              obtain ⟨C, xC, eC, hC⟩ : ∃ A xA eA, lexF (pl ++ moreL j ++ ql) = (A, xA, eA) := ⟨_, _, _, rfl⟩
              rw [hC] at hC0 hN
              simp only at hC0 hN
              subst hC0
              exact ⟨C, xC, hC, hN⟩
            rintro l (rfl | rfl | rfl | rfl)
            · exact one 0 (by omega)
            · exact one 1 (by omega)
            · exact one 2 (by omega)
            · exact one 3 (by omega)
          clear hlb
          generalize pl ++ moreL 0 ++ ql = c0 at *
          generalize pl ++ moreL 1 ++ ql = c1 at *
          generalize pl ++ moreL 2 ++ ql = c2 at *
          generalize pl ++ moreL 3 ++ ql = c3 at *
          generalize pl ++ moreL 0 = d0 at *
          generalize pl ++ moreL 1 = d1 at *
          generalize pl ++ moreL 2 = d2 at *
          generalize pl ++ moreL 3 = d3 at *
          have HALL : Hid (∀ l, l = c0 ∨ l = c1 ∨ l = c2 ∨ l = c3 → ∃ C xC, lexF l = (C, xC, 0) ∧ Near A C) := hall
          clear hall HLA
          have x0 : ∀ wx, (Instr.index 35 (.agg #[.string ⟨#[32]⟩, .string ⟨#[32, 35, 32, 119, 111, 114, 100, 115, 44, 32, 53, 32, 58]⟩, .string ⟨#[9, 13]⟩, .string ⟨#[10]⟩]) (.int .i64 0)).run Try.prog wx = .ok (.string ⟨#[32]⟩) wx := fun wx => arr_index _ 0 (by omega) _ rfl wx
          have x1 : ∀ wx, (Instr.index 35 (.agg #[.string ⟨#[32]⟩, .string ⟨#[32, 35, 32, 119, 111, 114, 100, 115, 44, 32, 53, 32, 58]⟩, .string ⟨#[9, 13]⟩, .string ⟨#[10]⟩]) (.int .i64 1)).run Try.prog wx = .ok (.string ⟨#[32, 35, 32, 119, 111, 114, 100, 115, 44, 32, 53, 32, 58]⟩) wx := fun wx => arr_index _ 1 (by omega) _ rfl wx
          have x2 : ∀ wx, (Instr.index 35 (.agg #[.string ⟨#[32]⟩, .string ⟨#[32, 35, 32, 119, 111, 114, 100, 115, 44, 32, 53, 32, 58]⟩, .string ⟨#[9, 13]⟩, .string ⟨#[10]⟩]) (.int .i64 2)).run Try.prog wx = .ok (.string ⟨#[9, 13]⟩) wx := fun wx => arr_index _ 2 (by omega) _ rfl wx
          have x3 : ∀ wx, (Instr.index 35 (.agg #[.string ⟨#[32]⟩, .string ⟨#[32, 35, 32, 119, 111, 114, 100, 115, 44, 32, 53, 32, 58]⟩, .string ⟨#[9, 13]⟩, .string ⟨#[10]⟩]) (.int .i64 3)).run Try.prog wx = .ok (.string ⟨#[10]⟩) wx := fun wx => arr_index _ 3 (by omega) _ rfl wx
          have n0 : ¬ 9223372036854775807 < pl.length + 1 := by omega
          have n1 : ¬ 9223372036854775807 < pl.length + 13 := by omega
          have n2 : ¬ 9223372036854775807 < pl.length + 2 := by omega
          have m0 : ¬ 9223372036854775807 < (strB d0).size + ql.length := by omega
          have m1 : ¬ 9223372036854775807 < (strB d1).size + ql.length := by omega
          have m2 : ¬ 9223372036854775807 < (strB d2).size + ql.length := by omega
          have m3 : ¬ 9223372036854775807 < (strB d3).size + ql.length := by omega
          rcases hgo2 with ⟨hlt, bz, hby, hz⟩ | rfl
          all_goals
            rcases hJ4 with rfl | rfl | rfl | rfl
            all_goals
              go_wp2_with fail
              refine (HPW.out _).mono ?_
              rintro e w2 ⟨rfl, rfl⟩
              go_wp2_with fail
              go_region_law (go_simp; go_at_call 8; refine (All_l rfl _).mono ?_; rintro e w3 ⟨ca, cc, he, hSC, hb3'⟩; first | (obtain ⟨C, xC, hC, hN⟩ := HALL.out c0 (.inl rfl); rw [hC] at he hSC) | (obtain ⟨C, xC, hC, hN⟩ := HALL.out c1 (.inr (.inl rfl)); rw [hC] at he hSC) | (obtain ⟨C, xC, hC, hN⟩ := HALL.out c2 (.inr (.inr (.inl rfl))); rw [hC] at he hSC) | (obtain ⟨C, xC, hC, hN⟩ := HALL.out c3 (.inr (.inr (.inr rfl))); rw [hC] at he hSC); simp only at he hSC; subst he; clear hC)
              have HSA3 : Hid (SlT w3 (.slice aa A.length ac) A) := HSA.out.kept (below_then ((Below.refl _ _).drew) hb3')
              have hb3 := below_then hb1.drew hb3'
              have HSC : Hid (SlT w3 (.slice ca C.length cc) C) := hSC
              have HN : Hid (Near A C) := hN
              have hlen : C.length ≤ A.length ∧ A.length ≤ C.length := by have := hN.len; omega
              have tl1 : ((C.length : Int) != (A.length : Int)) = false := by simp; omega
              clear hSC hN hb3' hb1 HSA HALL ha0 ha1 ha2 ha3 b0 b1 b2 b3 y0 y1 y2 y3 n0 n1 n2 m0 m1 m2 m3 x0 x1 x2 x3 hcut1 hcut2 zp zq
              go_wp2_with fail
              obtain ⟨W, rfl⟩ : ∃ W, W = w3 := ⟨w3, rfl⟩
              go_loopw [15] (fun iv wx => ∃ i : Nat, i ≤ A.length ∧ iv = .int .i64 i ∧ Below W.heap.size W wx) (fun iv _ => A.length - (intOf iv).toNat)
              case atStart => exact ⟨0, by omega, rfl, Below.refl _ _⟩
              case round =>
                obtain ⟨i, hi, rfl, hBl⟩ := hrel
                by_cases hlt : i < A.length
                · obtain ⟨g, f, rfl, tA⟩ := (HSA3.out.kept hBl).at hlt
                  have hltC : i < C.length := by omega
                  obtain ⟨g2, f2, rfl, tC⟩ := (HSC.out.kept hBl).at hltC
                  obtain ⟨r1, r2, r3, r4, r5⟩ := HN.out.all i hlt hltC
                  have hln := GA.out A[i] (List.getElem_mem hlt)
                  obtain ⟨tk, hx⟩ : ∃ tk, A[i] = tk := ⟨_, rfl⟩
                  obtain ⟨ty, hy⟩ : ∃ ty, C[i] = ty := ⟨_, rfl⟩
                  rw [hx] at tA r1 r2 r3 r4 r5 hln
                  rw [hy] at tC r1 r2 r3 r4 r5
                  obtain ⟨u1, u2, u3, u4⟩ := tC
                  obtain ⟨v1, v2, v3, v4⟩ := tA
                  rw [r1] at u1
                  rw [r2] at u2
                  rw [r3] at u3
                  have hw : IntKind.i64.wrap (tk.l + 1) = tk.l + 1 := by simp [IntKind.wrap, IntKind.bits, IntKind.signed]; omega
                  have o1 : decide (ty.l < tk.l) = false := by simp; omega
                  have o2 : decide (tk.l + 1 < ty.l) = false := by simp; omega
                  have HB2 : Hid (∀ n : Nat, Below W.heap.size W (World.drewN _ n)) := fun n => drawsL hBl n
                  clear hx hy r1 r2 r3 r4 r5 hBl
                  go_wp2_with fail
                  go_quiet (fail)
                  go_wp2_with fail
                  go_roundw
                  case rel => exact ⟨i + 1, by omega, by go_num, HB2.out _⟩
                  case measure => simp [intOf]; omega
                · obtain rfl : i = A.length := by omega
                  have hb4 := below_then hb3 hBl
                  clear hBl
                  go_wp2_with fail
                  refine (awake_any _).mono ?_
                  rintro e w5 ⟨rfl, hb'⟩
                  have hb5 := below_then hb4 hb'
                  go_wp2_with fail
                  go_ret
                  exact ⟨rfl, hb5⟩
    · have tA : (eA != 0) = true := by simp [hA0]
      clear hA0 GA
      go_enter Try.func4, Try.ntmps4
      go_wp2_with fail
      refine (All_l (l := sl) rfl _).mono ?_
      rintro e w1 ⟨aa, ac, he, hSA, hb1⟩
      rw [HLA.out] at he
      simp only at he
      subst he
      clear hSA
      go_wp2_with fail
      refine (awake_any _).mono ?_
      rintro e w5 ⟨rfl, hb'⟩
      have hb5 := below_then hb1 hb'
      go_wp2_with fail
      go_ret
      exact ⟨rfl, hb5⟩
  · have hds : decide ((2000 : Int) < (sl.length : Int)) = true := by simp; omega
    clear hs
    go_enter Try.func4, Try.ntmps4
    go_wp2_with fail
    refine (awake_any _).mono ?_
    rintro e w5 ⟨rfl, hb'⟩
    go_wp2_with fail
    go_ret
    exact ⟨rfl, hb'⟩
end Go.Proofs.Ytphkplliecfmjaa
