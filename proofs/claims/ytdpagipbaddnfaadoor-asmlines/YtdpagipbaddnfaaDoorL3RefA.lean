/-
  The reference: All.
-/
import Derived.Test.YtdpagipbaddnfaaDoorL3RefN
import Derived.Laws.Strings2
namespace Go.Proofs.YtdpagipbaddnfaaDoor.L3
open Go.RowKit

theorem infoT : (Tryd.prog.info? 109).map (fun i => (i.zero, i.size, i.bytes)) = some (some (.agg #[.int .i64 0, .string ⟨#[]⟩, .int .i64 0, .int .i64 0]), 4, 40) := by kernel_rfl
theorem own_slT' {w : World} {B : Nat} {e : TypeId} {v : Value} {T : List Tk} (h : w.ownsRow B e 4 v T.length (cellsT T)) : SlT w v T := by
  rcases h.2 with ⟨rfl, h0⟩ | ⟨g, cap, cur, rfl, _⟩
  · exact ⟨none, 0, by rw [h0], fun k hk => by omega⟩
  · refine ⟨some ⟨g, 0, none⟩, cap, rfl, fun k hk => ⟨g, 0, rfl, ?_⟩⟩
    have hj : ∀ j, j < 4 → w.cell? ⟨g, 0 + k * 4 + j, none⟩ = (tkC T[k])[j]? := fun j hj => by
      rw [Nat.zero_add, h.cellAt _ (by omega), cellsT_at hk j hj]
    exact ⟨by simpa [tkC] using hj 0 (by omega), by simpa [tkC] using hj 1 (by omega), by simpa [tkC] using hj 2 (by omega), by simpa [tkC] using hj 3 (by omega)⟩
theorem seg_slice (l : List UInt8) (a b : Nat) (h : a ≤ b) (hb : b ≤ l.length) (w : World) : (Instr.slice 9 (.string (strB l)) (some (.int .i64 (a : Int))) (some (.int .i64 (b : Int))) none).run Tryd.prog w = .ok (.string (strB (seg l a b))) w := by
  have hs : (strB l).size = l.length := strB_size l
  rw [run_slice_string (P := Tryd.prog) w 9 (strB l) .i64 .i64 (a : Int) (b : Int) Tryd.underlying9 (by omega) (by omega) (by omega), Int.toNat_natCast, Int.toNat_natCast, strB_seg]
/-- the row of tokens under way -/
structure TRow (w wr : World) (lv : Value) (T : List Tk) : Prop where
  low : Below w.heap.size w wr
  row : wr.ownsRow w.heap.size 109 4 lv T.length (cellsT T)
theorem TRow.push {w wr w' : World} {lv : Value} {T : List Tk} {t : Tk} {g cap : Nat} (h : TRow w wr lv T) (o : Obj) (hg : (wr.alloc o).grownBy w' lv.ownBlock)
    (ho : w'.ownsRow w.heap.size 109 4 (.slice (some ⟨g, 0, none⟩) (T.length + 1) cap) (T.length + 1) (cellsT T ++ tkC t)) : TRow w w' (.slice (some ⟨g, 0, none⟩) (T.length + 1) cap) (T ++ [t]) := by
  have ha := h.low.alloc h.low.size o
  refine ⟨ha.trans ⟨hg.os, hg.tape, hg.output, hg.size, fun k hk => hg.block k (by have := ha.size; omega) fun e => ?_⟩, ?_⟩
  · have := (h.row.lt k e.symm).1
    omega
  · rw [List.length_append, cellsT_snoc]
    exact ho
def RLexPost (l : List UInt8) (w : World) (e : Ending) (w' : World) : Prop := LexPost l w e w'
theorem rpost {l : List UInt8} {w w' : World} {T : List Tk} {x y : Int} {tv : Value} (h : lexF l = (T, x, y)) (hs : SlT w' tv T) (hb : Below w.heap.size w w') : LexPost l w (.returned (.tuple #[tv, .int .i64 x, .int .i64 y])) w' := by
  have hs' := hs
  obtain ⟨ta, tc, rfl, -⟩ := hs'
  unfold LexPost
  rw [h]
  exact ⟨ta, tc, rfl, hs, hb⟩
/-- the classes of a byte, as the reference tells them -/
theorem byte_cases (z : Nat) : z = 32 ∨ z = 9 ∨ z = 13 ∨ z = 35 ∨ z = 10 ∨ z = 45 ∨ z = 58 ∨ z = 44 ∨
    (((z : Int) == 32) = false ∧ ((z : Int) == 9) = false ∧ ((z : Int) == 13) = false ∧ ((z : Int) == 35) = false ∧ ((z : Int) == 10) = false ∧ ((z : Int) == 45) = false ∧ ((z : Int) == 58) = false ∧ ((z : Int) == 44) = false) := by
  simp
  omega
set_option maxHeartbeats 4000000 in
set_option maxRecDepth 4000 in
theorem RAll_any (l : List UInt8) (w : World) : Calls Tryd.prog 25 #[.string (strB l)] w fun e w' => LexPost l w e w' := by
  obtain ⟨i0, hi0, hz0, hz1, hz2⟩ := info_parts infoT
  have hs : (strB l).size = l.length := strB_size l
  by_cases h8 : l.length ≤ 8192
  · have hd8 : decide ((8192 : Int) < (l.length : Int)) = false := by simp; omega
    go_enter Tryd.func25, Tryd.ntmps25
    go_wp2_with fail
    go_loopw [5, 6, 7, 8] (fun lv lnv hv iv wr => ∃ (i : Nat) (T : List Tk) (ln : Int), i ≤ l.length ∧ iv = .int .i64 i ∧ lnv = .int .i64 ln ∧ hv = .bool (openT T) ∧ TRow w wr lv T ∧ RefAt l i T ln ∧ T.length ≤ i ∧ 1 ≤ ln ∧ ln ≤ i + 1) (fun _ _ _ iv _ => l.length - (intOf iv).toNat)
    case atStart => exact ⟨0, [], 1, by omega, rfl, rfl, rfl, ⟨Below.refl _ _, World.ownsRow_nil _ _ _ _⟩, ref0 l, by simp, by omega, by simp⟩
    case round =>
      obtain ⟨i, T, ln, hi, rfl, rfl, rfl, hT, hA, hTl, hl1, hl2⟩ := hrel
      have HA : Hid (RefAt l i T ln) := hA
      clear hA
      by_cases hlt : i < l.length
      · have hby := fun wx => byteL l i hlt wx
        rcases byte_cases l[i].toNat with hz | hz | hz | hz | hz | hz | hz | hz | hz
        · have HA2 : Hid (RefAt l (i + 1) T ln) := HA.out.blank hlt (by rw [hz]; omega)
          simp only [hz] at hby
          clear hz
          go_wp2_with fail
          go_roundw
          case rel => exact ⟨i + 1, T, ln, by omega, by go_num, rfl, rfl, hT, HA2.out, by omega, by omega, by omega⟩
          case measure => simp [intOf]; omega
        · have HA2 : Hid (RefAt l (i + 1) T ln) := HA.out.blank hlt (by rw [hz]; omega)
          simp only [hz] at hby
          clear hz
          go_wp2_with fail
          go_roundw
          case rel => exact ⟨i + 1, T, ln, by omega, by go_num, rfl, rfl, hT, HA2.out, by omega, by omega, by omega⟩
          case measure => simp [intOf]; omega
        · have HA2 : Hid (RefAt l (i + 1) T ln) := HA.out.blank hlt (by rw [hz]; omega)
          simp only [hz] at hby
          clear hz
          go_wp2_with fail
          go_roundw
          case rel => exact ⟨i + 1, T, ln, by omega, by go_num, rfl, rfl, hT, HA2.out, by omega, by omega, by omega⟩
          case measure => simp [intOf]; omega
        · have HZ : Hid (l[i].toNat = 35) := hz
          simp only [hz] at hby
          clear hz
          go_wp2_with fail
          go_loopw [8] (fun jv wx => ∃ j : Nat, i ≤ j ∧ j ≤ l.length ∧ jv = .int .i64 j ∧ (j = i ∨ (i + 1 ≤ j ∧ ∀ b ∈ seg l (i + 1) j, b ≠ 10)) ∧ wx = wr) (fun jv _ => l.length - (intOf jv).toNat)
          case atStart => exact ⟨i, by omega, by omega, rfl, .inl rfl, rfl⟩
          case round =>
            obtain ⟨j, hij, hjl, rfl, hjj, rfl⟩ := hrel
            by_cases hgo : ∃ h : j < l.length, l[j] ≠ 10
            · obtain ⟨hj, h10⟩ := hgo
              have hbj := fun wx => byteL l j hj wx
              have hz10 : ((l[j].toNat : Int) != 10) = true := by
                have := ten_nat h10
                simp
                omega
              have HJ : Hid (i + 1 ≤ j + 1 ∧ ∀ b ∈ seg l (i + 1) (j + 1), b ≠ 10) := by
                rcases hjj with rfl | ⟨h1, h2⟩
                · exact ⟨Nat.le_refl _, by rw [seg_self]; intro b hb; simp at hb⟩
                · refine ⟨by omega, ?_⟩
                  rw [seg_succ l h1 hj]
                  intro b hb
                  simp at hb
                  rcases hb with hb | rfl
                  · exact h2 b hb
                  · exact h10
              clear hby hjj h10
              generalize l[j].toNat = zj at *
              go_wp2_with fail
              go_roundw
              case rel => exact ⟨j + 1, by omega, by omega, by go_num, .inr HJ.out, trivial⟩
              case measure => simp [intOf]; omega
            · have hend : ∀ h : j < l.length, l[j] = 10 := fun h => Classical.byContradiction fun hn => hgo ⟨h, hn⟩
              have hj2 : i + 1 ≤ j ∧ ∀ b ∈ seg l (i + 1) j, b ≠ 10 := by
                rcases hjj with rfl | h
                · have e := hend hlt
                  have hz := HZ.out
                  rw [e] at hz
                  exact absurd hz (by decide)
                · exact h
              have HA2 : Hid (RefAt l j T ln) := HA.out.comment hlt (by rw [HZ.out]; rfl) hj2.1 hj2.2 hend
              have hij2 : i < j := hj2.1
              have hgo2 : (j < l.length ∧ ∃ bz : Nat, (∀ wx, (Instr.index 9 (.string (strB l)) (.int .i64 (j : Int))).run Tryd.prog wx = .ok (.int .u8 (bz : Int)) wx) ∧ ((bz : Int) != 10) = false) ∨ j = l.length := by
                by_cases hj : j < l.length
                · refine .inl ⟨hj, l[j].toNat, fun wx => byteL l j hj wx, ?_⟩
                  rw [hend hj]
                  rfl
                · exact .inr (by omega)
              clear hby hjj hgo hend hj2 HZ HA
              rcases hgo2 with ⟨hj, bz, hbj, hbz⟩ | rfl
              all_goals
                go_wp2_with fail
                go_roundw
                case rel => exact ⟨_, T, ln, by omega, rfl, rfl, rfl, hT, HA2.out, by omega, by omega, by omega⟩
                case measure => simp [intOf]; omega
        · have hten : l[i] = 10 := UInt8.toNat.inj (by simpa using hz)
          have hA2 := HA.out.ten hlt hten
          simp only [hz] at hby
          clear hz hten HA
          cases ho : openT T with
          | true =>
            rw [ho, if_pos rfl] at hA2
            have HA2 : Hid (RefAt l (i + 1) (T ++ [⟨4, [], 0, ln⟩]) (ln + 1)) := hA2
            clear hA2 ho
            go_wp2_with (at_builtin; refine wpList_append_lies _ rfl (.tmp 63) (.tmp 66) 61 rfl w.heap.size 109 i0 (.agg #[.int .i64 0, .string ⟨#[]⟩, .int .i64 0, .int .i64 0]) 4 40 Tryd.underlying61 hi0 hz0 hz1 hz2 rfl (by decide) u5 T.length (cellsT T) rfl (hT.row.alloc _) ⟨wr.heap.size, 0, none⟩ 1 1 (tkC ⟨4, [], 0, ln⟩) ?c0 rfl (tkC_new _ ⟨4, [], 0, ln⟩ _) (tkC_one _) (by omega) ?c2 ?c3 ?c4 _ rfl ?_)
            case c0 => simp [Act.eval]
            case c2 => unfold maxLen; omega
            case c3 => omega
            case c4 => have := hT.low.size; simp; omega
            intro g7 cap7 w7 hown7 hgrow7 hat7 hlt7
            have hT2 := hT.push (t := ⟨4, [], 0, ln⟩) _ hgrow7 hown7
            clear hown7 hgrow7 hat7 hlt7
            go_wp2_with fail
            go_roundw
            case rel => exact ⟨i + 1, T ++ [⟨4, [], 0, ln⟩], ln + 1, by omega, by go_num, by go_num, by rw [open_snoc]; rfl, hT2, HA2.out, by simp; omega, by omega, by omega⟩
            case measure => simp [intOf]; omega
          | false =>
            rw [ho] at hA2
            have HOP : Hid (openT T = false) := ho
            have HA2 : Hid (RefAt l (i + 1) T (ln + 1)) := hA2
            clear hA2 ho
            go_wp2_with fail
            go_roundw
            case rel => exact ⟨i + 1, T, ln + 1, by omega, by go_num, by go_num, by rw [HOP.out], hT, HA2.out, by omega, by omega, by omega⟩
            case measure => simp [intOf]; omega
        · have HC : Hid ((l[i].toNat : Int) = 45 ∨ isD l[i]) := .inl (by rw [hz]; rfl)
          have hlb : letB l i = false := by rw [letB_in hlt]; simp [isL, hz]
          have hdb : digB l i = false := by rw [digB_in hlt]; simp [isD, hz]
          simp only [hz] at hby
          clear hz
          go_wp2_with fail
          refine (letter_any l i _).mono ?_
          rintro e w1 ⟨rfl, rfl⟩
          rw [hlb]
          go_wp2_with fail
          refine (digit_any l i _).mono ?_
          rintro e w1 ⟨rfl, rfl⟩
          rw [hdb]
          go_wp2_with fail
          refine (number_any l i hlt h8 HC.out _).mono ?_
          rintro e w2 ⟨rfl, g, i1, j, hgi, hij, hjl, hds, hnd, hout⟩
          have hnum := HA.out.num h8 hlt hgi hij hjl hds hnd
          have hi1 : i < j ∨ ¬ (i1 < j) := by rcases hgi with ⟨-, -, rfl⟩ | ⟨-, -, rfl⟩ <;> omega
          rcases hout with ⟨hq, rfl⟩ | ⟨hq, x, rfl⟩
          · have HA2 := hnum.2 hq
            have hlt2 : i < j := hi1.resolve_right (fun h => h hq.1)
            generalize g * (valF 0 (seg l i1 j) : Int) = V at *
            have HA3 : Hid (RefAt l j (T ++ [⟨2, [], V, ln⟩]) ln) := HA2
            clear hnum hq hgi hds hnd HA2 HA hi1
            go_wp2_with (at_builtin; refine wpList_append_lies _ rfl (.tmp 115) (.tmp 119) 61 rfl w.heap.size 109 i0 (.agg #[.int .i64 0, .string ⟨#[]⟩, .int .i64 0, .int .i64 0]) 4 40 Tryd.underlying61 hi0 hz0 hz1 hz2 rfl (by decide) u5 T.length (cellsT T) rfl (hT.row.alloc _) ⟨w2.heap.size, 0, none⟩ 1 1 (tkC ⟨2, [], V, ln⟩) ?c0 rfl (tkC_new _ ⟨2, [], V, ln⟩ _) (tkC_one _) (by omega) ?c2 ?c3 ?c4 _ rfl ?_)
            case c0 => simp [Act.eval]
            case c2 => unfold maxLen; omega
            case c3 => omega
            case c4 => have := hT.low.size; simp; omega
            intro g7 cap7 w7 hown7 hgrow7 hat7 hlt7
            have hT2 := hT.push (t := ⟨2, [], V, ln⟩) _ hgrow7 hown7
            clear hown7 hgrow7 hat7 hlt7
            go_wp2_with fail
            go_roundw
            case rel => exact ⟨j, T ++ [⟨2, [], V, ln⟩], ln, by omega, rfl, rfl, by rw [open_snoc]; rfl, hT2, HA3.out, by simp; omega, by omega, by omega⟩
            case measure => simp [intOf]; omega
          · have HE := rpost (w := w) (hnum.1 hq) (SlT.nil w2) hT.low
            have HE2 : Hid (LexPost l w _ w2) := HE
            clear hnum hq hgi hds hnd HE HA
            go_wp2_with fail
            exact bodyPost_ret (v := .tuple #[.slice none 0 0, .int .i64 ln, .int .i64 3]) (by simp [results, Tryd.results25, go_sem]) rfl HE2.out
        · have HA2 : Hid (RefAt l (i + 1) (T ++ [⟨3, seg l i (i + 1), 0, ln⟩]) ln) := HA.out.sign hlt (by rw [hz]; omega)
          have hlb : letB l i = false := by rw [letB_in hlt]; simp [isL, hz]
          have hdb : digB l i = false := by rw [digB_in hlt]; simp [isD, hz]
          have hsl := fun wx => seg_slice l i (i + 1) (by omega) (by omega) wx
          rw [show ((i + 1 : Nat) : Int) = (i : Int) + 1 by omega] at hsl
          generalize seg l i (i + 1) = sg at *
          simp only [hz] at hby
          clear hz HA
          go_wp2_with fail
          refine (letter_any l i _).mono ?_
          rintro e w1 ⟨rfl, rfl⟩
          rw [hlb]
          go_wp2_with fail
          refine (digit_any l i _).mono ?_
          rintro e w1 ⟨rfl, rfl⟩
          rw [hdb]
          go_wp2_with (at_builtin; refine wpList_append_lies _ rfl (.tmp 133) (.tmp 141) 61 rfl w.heap.size 109 i0 (.agg #[.int .i64 0, .string ⟨#[]⟩, .int .i64 0, .int .i64 0]) 4 40 Tryd.underlying61 hi0 hz0 hz1 hz2 rfl (by decide) u5 T.length (cellsT T) rfl (hT.row.alloc _) ⟨w1.heap.size, 0, none⟩ 1 1 (tkC ⟨3, sg, 0, ln⟩) ?c0 rfl (tkC_new _ ⟨3, sg, 0, ln⟩ _) (tkC_one _) (by omega) ?c2 ?c3 ?c4 _ rfl ?_)
          case c0 => simp [Act.eval]
          case c2 => unfold maxLen; omega
          case c3 => omega
          case c4 => have := hT.low.size; simp; omega
          intro g7 cap7 w7 hown7 hgrow7 hat7 hlt7
          have hT2 := hT.push (t := ⟨3, sg, 0, ln⟩) _ hgrow7 hown7
          clear hown7 hgrow7 hat7 hlt7
          go_wp2_with fail
          go_roundw
          case rel => exact ⟨i + 1, T ++ [⟨3, sg, 0, ln⟩], ln, by omega, by go_num, rfl, by rw [open_snoc]; rfl, hT2, HA2.out, by simp; omega, by omega, by omega⟩
          case measure => simp [intOf]; omega
        · have HA2 : Hid (RefAt l (i + 1) (T ++ [⟨3, seg l i (i + 1), 0, ln⟩]) ln) := HA.out.sign hlt (by rw [hz]; omega)
          have hlb : letB l i = false := by rw [letB_in hlt]; simp [isL, hz]
          have hdb : digB l i = false := by rw [digB_in hlt]; simp [isD, hz]
          have hsl := fun wx => seg_slice l i (i + 1) (by omega) (by omega) wx
          rw [show ((i + 1 : Nat) : Int) = (i : Int) + 1 by omega] at hsl
          generalize seg l i (i + 1) = sg at *
          simp only [hz] at hby
          clear hz HA
          go_wp2_with fail
          refine (letter_any l i _).mono ?_
          rintro e w1 ⟨rfl, rfl⟩
          rw [hlb]
          go_wp2_with fail
          refine (digit_any l i _).mono ?_
          rintro e w1 ⟨rfl, rfl⟩
          rw [hdb]
          go_wp2_with (at_builtin; refine wpList_append_lies _ rfl (.tmp 133) (.tmp 141) 61 rfl w.heap.size 109 i0 (.agg #[.int .i64 0, .string ⟨#[]⟩, .int .i64 0, .int .i64 0]) 4 40 Tryd.underlying61 hi0 hz0 hz1 hz2 rfl (by decide) u5 T.length (cellsT T) rfl (hT.row.alloc _) ⟨w1.heap.size, 0, none⟩ 1 1 (tkC ⟨3, sg, 0, ln⟩) ?c0 rfl (tkC_new _ ⟨3, sg, 0, ln⟩ _) (tkC_one _) (by omega) ?c2 ?c3 ?c4 _ rfl ?_)
          case c0 => simp [Act.eval]
          case c2 => unfold maxLen; omega
          case c3 => omega
          case c4 => have := hT.low.size; simp; omega
          intro g7 cap7 w7 hown7 hgrow7 hat7 hlt7
          have hT2 := hT.push (t := ⟨3, sg, 0, ln⟩) _ hgrow7 hown7
          clear hown7 hgrow7 hat7 hlt7
          go_wp2_with fail
          go_roundw
          case rel => exact ⟨i + 1, T ++ [⟨3, sg, 0, ln⟩], ln, by omega, by go_num, rfl, by rw [open_snoc]; rfl, hT2, HA2.out, by simp; omega, by omega, by omega⟩
          case measure => simp [intOf]; omega
        · obtain ⟨t1, t2, t3, t4, t5, t6, t7, t8⟩ := hz
          cases hlb : letB l i with
          | true =>
            have HLB : Hid (letB l i = true) := hlb
            clear hlb
            obtain ⟨_, hL⟩ := letB_true HLB.out
            have HL : Hid (isL l[i]) := hL
            clear hL
            generalize l[i].toNat = z at hby t1 t2 t3 t4 t5 t6 t7 t8
            go_wp2_with fail
            refine (letter_any l i _).mono ?_
            rintro e w1 ⟨rfl, rfl⟩
            rw [HLB.out]
            go_wp2_with fail
            clear hby t1 t2 t3 t4 t5 t6 t7 t8
            go_loopw [8] (fun jv wx => ∃ j : Nat, i ≤ j ∧ j ≤ l.length ∧ jv = .int .i64 j ∧ (∀ b ∈ seg l i j, isL b) ∧ wx = w1) (fun jv _ => l.length - (intOf jv).toNat)
            case atStart => exact ⟨i, by omega, by omega, rfl, by rw [seg_self]; intro b hb; simp at hb, rfl⟩
            case round =>
              obtain ⟨j, hij, hjl, rfl, hjj, rfl⟩ := hrel
              have HJ : Hid (∀ b ∈ seg l i j, isL b) := hjj
              clear hjj
              go_wp2_with fail
              refine (letter_any l j _).mono ?_
              rintro e w2 ⟨rfl, rfl⟩
              cases hlj : letB l j with
              | true =>
                obtain ⟨hj, hLj⟩ := letB_true hlj
                have HJ2 : Hid (∀ b ∈ seg l i (j + 1), isL b) := by
                  show ∀ b ∈ seg l i (j + 1), isL b
                  rw [seg_succ l hij hj]
                  intro b hb
                  simp at hb
                  rcases hb with hb | rfl
                  · exact HJ.out b hb
                  · exact hLj
                clear hLj HJ hlj
                go_wp2_with fail
                go_roundw
                case rel => exact ⟨j + 1, by omega, by omega, by go_num, HJ2.out, trivial⟩
                case measure => simp [intOf]; omega
              | false =>
                have hij2 : i < j := by
                  refine Classical.byContradiction fun hn => ?_
                  obtain rfl : i = j := by omega
                  rw [HLB.out] at hlj
                  cases hlj
                have hw := HA.out.word h8 hlt HL.out hij2 HJ.out hjl
                have hnl := letB_false hlj
                have hsl := fun wx => seg_slice l i j hij hjl wx
                clear HJ HA HLB HL hlj
                go_wp2_with fail
                refine (digit_any l j _).mono ?_
                rintro e w3 ⟨rfl, rfl⟩
                cases hdj : digB l j with
                | true =>
                  have HE := rpost (w := w) (hw.1 (digB_true hdj)) (SlT.nil w3) hT.low
                  have HE2 : Hid (LexPost l w _ w3) := HE
                  clear hw hnl HE hdj hsl
                  go_wp2_with fail
                  exact bodyPost_ret (v := .tuple #[.slice none 0 0, .int .i64 ln, .int .i64 3]) (by simp [results, Tryd.results25, go_sem]) rfl HE2.out
                | false =>
                  have hA2 := hw.2 fun h => ⟨hnl h, digB_false hdj h⟩
                  generalize seg l i j = sg at *
                  have HA2 : Hid (RefAt l j (T ++ [⟨1, sg, 0, ln⟩]) ln) := hA2
                  clear hw hnl hA2 hdj
                  go_wp2_with (at_builtin; refine wpList_append_lies _ rfl (.tmp 86) (.tmp 93) 61 rfl w.heap.size 109 i0 (.agg #[.int .i64 0, .string ⟨#[]⟩, .int .i64 0, .int .i64 0]) 4 40 Tryd.underlying61 hi0 hz0 hz1 hz2 rfl (by decide) u5 T.length (cellsT T) rfl (hT.row.alloc _) ⟨w3.heap.size, 0, none⟩ 1 1 (tkC ⟨1, sg, 0, ln⟩) ?c0 rfl (tkC_new _ ⟨1, sg, 0, ln⟩ _) (tkC_one _) (by omega) ?c2 ?c3 ?c4 _ rfl ?_)
                  case c0 => simp [Act.eval]
                  case c2 => unfold maxLen; omega
                  case c3 => omega
                  case c4 => have := hT.low.size; simp; omega
                  intro g7 cap7 w7 hown7 hgrow7 hat7 hlt7
                  have hT2 := hT.push (t := ⟨1, sg, 0, ln⟩) _ hgrow7 hown7
                  clear hown7 hgrow7 hat7 hlt7
                  go_wp2_with fail
                  go_roundw
                  case rel => exact ⟨j, T ++ [⟨1, sg, 0, ln⟩], ln, by omega, rfl, rfl, by rw [open_snoc]; rfl, hT2, HA2.out, by simp; omega, by omega, by omega⟩
                  case measure => simp [intOf]; omega
          | false =>
            have HLB : Hid (letB l i = false) := hlb
            clear hlb
            cases hdb : digB l i with
            | true =>
              have HDB : Hid (digB l i = true) := hdb
              obtain ⟨_, hDD⟩ := digB_true hdb
              have HC : Hid ((l[i].toNat : Int) = 45 ∨ isD l[i]) := .inr hDD
              clear hdb hDD
              generalize l[i].toNat = z at hby t1 t2 t3 t4 t5 t6 t7 t8
              go_wp2_with fail
              refine (letter_any l i _).mono ?_
              rintro e w1 ⟨rfl, rfl⟩
              rw [HLB.out]
              go_wp2_with fail
              refine (digit_any l i _).mono ?_
              rintro e w1 ⟨rfl, rfl⟩
              rw [HDB.out]
              clear HLB HDB
              go_wp2_with fail
              refine (number_any l i hlt h8 HC.out _).mono ?_
              rintro e w2 ⟨rfl, g, i1, j, hgi, hij, hjl, hds, hnd, hout⟩
              have hnum := HA.out.num h8 hlt hgi hij hjl hds hnd
              have hi1 : i < j ∨ ¬ (i1 < j) := by rcases hgi with ⟨-, -, rfl⟩ | ⟨-, -, rfl⟩ <;> omega
              rcases hout with ⟨hq, rfl⟩ | ⟨hq, x, rfl⟩
              · have HA2 := hnum.2 hq
                have hlt2 : i < j := hi1.resolve_right (fun h => h hq.1)
                generalize g * (valF 0 (seg l i1 j) : Int) = V at *
                have HA3 : Hid (RefAt l j (T ++ [⟨2, [], V, ln⟩]) ln) := HA2
                clear hnum hq hgi hds hnd HA2 HA hi1
                go_wp2_with (at_builtin; refine wpList_append_lies _ rfl (.tmp 115) (.tmp 119) 61 rfl w.heap.size 109 i0 (.agg #[.int .i64 0, .string ⟨#[]⟩, .int .i64 0, .int .i64 0]) 4 40 Tryd.underlying61 hi0 hz0 hz1 hz2 rfl (by decide) u5 T.length (cellsT T) rfl (hT.row.alloc _) ⟨w2.heap.size, 0, none⟩ 1 1 (tkC ⟨2, [], V, ln⟩) ?c0 rfl (tkC_new _ ⟨2, [], V, ln⟩ _) (tkC_one _) (by omega) ?c2 ?c3 ?c4 _ rfl ?_)
                case c0 => simp [Act.eval]
                case c2 => unfold maxLen; omega
                case c3 => omega
                case c4 => have := hT.low.size; simp; omega
                intro g7 cap7 w7 hown7 hgrow7 hat7 hlt7
                have hT2 := hT.push (t := ⟨2, [], V, ln⟩) _ hgrow7 hown7
                clear hown7 hgrow7 hat7 hlt7
                go_wp2_with fail
                go_roundw
                case rel => exact ⟨j, T ++ [⟨2, [], V, ln⟩], ln, by omega, rfl, rfl, by rw [open_snoc]; rfl, hT2, HA3.out, by simp; omega, by omega, by omega⟩
                case measure => simp [intOf]; omega
              · have HE := rpost (w := w) (hnum.1 hq) (SlT.nil w2) hT.low
                have HE2 : Hid (LexPost l w _ w2) := HE
                clear hnum hq hgi hds hnd HE HA
                go_wp2_with fail
                exact bodyPost_ret (v := .tuple #[.slice none 0 0, .int .i64 ln, .int .i64 3]) (by simp [results, Tryd.results25, go_sem]) rfl HE2.out
            | false =>
              have HDB : Hid (digB l i = false) := hdb
              have hE : lexF l = ([], ln, 3) := HA.out.wrong h8 hlt (fun e => by rw [e] at t5; exact absurd t5 (by decide)) (by simp at t1 t2 t3; omega) (by simp at t4; omega) (by simp at t6; omega) (by simp at t7 t8; omega) (letB_false HLB.out hlt) (digB_false hdb hlt)
              have HE2 : Hid (lexF l = ([], ln, 3)) := hE
              clear hdb hE
              generalize l[i].toNat = z at hby t1 t2 t3 t4 t5 t6 t7 t8
              go_wp2_with fail
              refine (letter_any l i _).mono ?_
              rintro e w1 ⟨rfl, rfl⟩
              rw [HLB.out]
              go_wp2_with fail
              refine (digit_any l i _).mono ?_
              rintro e w1 ⟨rfl, rfl⟩
              rw [HDB.out]
              have HE3 : Hid (LexPost l w _ w1) := rpost (w := w) HE2.out (SlT.nil w1) hT.low
              go_wp2_with fail
              exact bodyPost_ret (v := .tuple #[.slice none 0 0, .int .i64 ln, .int .i64 3]) (by simp [results, Tryd.results25, go_sem]) rfl HE3.out
      · have hD := HA.out.done h8 hlt
        clear HA
        cases ho : openT T with
        | true =>
          rw [ho, if_pos rfl] at hD
          have HD : Hid (lexF l = (T ++ [⟨4, [], 0, ln⟩], 0, 0)) := hD
          clear hD ho
          go_wp2_with (at_builtin; refine wpList_append_lies _ rfl (.tmp 146) (.tmp 149) 61 rfl w.heap.size 109 i0 (.agg #[.int .i64 0, .string ⟨#[]⟩, .int .i64 0, .int .i64 0]) 4 40 Tryd.underlying61 hi0 hz0 hz1 hz2 rfl (by decide) u5 T.length (cellsT T) rfl (hT.row.alloc _) ⟨wr.heap.size, 0, none⟩ 1 1 (tkC ⟨4, [], 0, ln⟩) ?c0 rfl (tkC_new _ ⟨4, [], 0, ln⟩ _) (tkC_one _) (by omega) ?c2 ?c3 ?c4 _ rfl ?_)
          case c0 => simp [Act.eval]
          case c2 => unfold maxLen; omega
          case c3 => omega
          case c4 => have := hT.low.size; simp; omega
          intro g7 cap7 w7 hown7 hgrow7 hat7 hlt7
          have hT2 := hT.push (t := ⟨4, [], 0, ln⟩) _ hgrow7 hown7
          clear hown7 hgrow7 hat7 hlt7
          have HE2 : Hid (LexPost l w _ w7) := rpost (w := w) HD.out (own_slT' hT2.row) hT2.low
          clear hT2 HD
          go_wp2_with fail
          exact bodyPost_ret (v := .tuple #[.slice (some ⟨g7, 0, none⟩) (T.length + 1) cap7, .int .i64 0, .int .i64 0]) (by simp [results, Tryd.results25, go_sem]) rfl HE2.out
        | false =>
          rw [ho] at hD
          have HE2 : Hid (LexPost l w _ wr) := rpost (w := w) hD (own_slT' hT.row) hT.low
          clear hD ho
          go_wp2_with fail
          exact bodyPost_ret (v := .tuple #[u5, .int .i64 0, .int .i64 0]) (by simp [results, Tryd.results25, go_sem]) rfl HE2.out
  · have hd8 : decide ((8192 : Int) < (l.length : Int)) = true := by simp; omega
    have hE : lexF l = ([], 0, 2) := by
      unfold lexF
      rw [if_pos (by omega)]
    have HE2 : Hid (LexPost l w _ w) := rpost (w := w) hE (SlT.nil w) (Below.refl _ _)
    clear h8 hE
    go_enter Tryd.func25, Tryd.ntmps25
    go_wp2_with fail
    exact bodyPost_ret (v := .tuple #[.slice none 0 0, .int .i64 0, .int .i64 2]) (by simp [results, Tryd.results25, go_sem]) rfl HE2.out
end Go.Proofs.YtdpagipbaddnfaaDoor.L3