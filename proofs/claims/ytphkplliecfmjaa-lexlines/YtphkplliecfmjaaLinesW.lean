/-
  The law LexLines: its walk.
-/
import Derived.Test.YtphkplliecfmjaaByNum
import Derived.Test.YtphkplliecfmjaaPlace
import Derived.ProofKit
import Derived.OpenShut
import Derived.BigQuiet
namespace Go.Proofs.Ytphkplliecfmjaa
open Go.ChangeShapes Go.WideShapes Go.ChangeAt Go.RowKit

/-- ints that were handed in -/
def IntsIn (w : World) (a : Option Addr) (len : Nat) : Prop := ∀ i, i < len → ∃ g f z, a = some ⟨g, f, none⟩ ∧ w.cell? ⟨g, f + i, none⟩ = some (.int .i64 z)
theorem cellsInt : Try.prog.cellsOf 3 = 1 := by kernel_rfl
theorem ints_in {H : Type} {enc : TypeId × Value → H} {W : World} {a0 : Option Addr} {len cap : Nat} {d : DataW H} {ps : List MemPlace} (h : DataW.Trod enc Try.prog W 0 (fun _ => true) true 38 (.slice a0 len cap) d ps) : IntsIn W a0 len := by
  obtain ⟨fuel, hf⟩ := h
  rcases open_ints Try.underlying38 Try.underlying3 cellsInt hf with ⟨hcs, -⟩ | ⟨a, len', cap', zs, hcs, -, hl, hm, hz, -, hcell, -⟩
  · simp [Value.cells] at hcs
    obtain ⟨rfl, rfl, rfl⟩ := hcs
    exact fun i hi => by omega
  · simp [Value.cells] at hcs
    obtain ⟨rfl, rfl, rfl⟩ := hcs
    simp at hz
    intro i hi
    obtain ⟨b, off, rfl, hc⟩ := ints_at hcell (by omega)
    exact ⟨b, off, _, rfl, hc i (by omega)⟩
theorem four_cases (v : Int) : v % 4 = 0 ∨ v % 4 = 1 ∨ v % 4 = 2 ∨ v % 4 = 3 := by omega
set_option maxHeartbeats 4000000 in
set_option maxRecDepth 4000 in
theorem lines_walk (a : Option Addr) (len cap : Nat) (w : World) (hN : IntsIn w a len) : Calls Try.prog 6 #[.slice a len cap] w fun e w' => e = .returned (.bool true) ∧ Below w.heap.size w w' := by
  obtain ⟨i0, hi0, hz0, hz1, hz2⟩ := info_parts infoInt
  have HN : Hid (IntsIn w a len) := hN
  clear hN
  go_enter Try.func6, Try.ntmps6
  go_wp2_with fail
  go_loopw [3, 4, 5, 6, 7, 8, 9] (fun sv lnv hv kv nv lv iv wr => ∃ (i : Nat) (sl : List UInt8) (T : List Tk) (ln : Int), i ≤ 60 ∧ i ≤ len ∧ iv = .int .i64 i ∧ sv = .string (strB sl) ∧ lnv = .int .i64 ln ∧ hv = .bool (openT T) ∧
    R3 w wr (T.map Tk.k) (T.map Tk.n) (T.map Tk.l) kv nv lv ∧ TxAt sl T ln ∧ sl.length ≤ 4 * i ∧ T.length ≤ i ∧ 1 ≤ ln ∧ ln ≤ i + 1) (fun _ _ _ _ _ _ iv _ => 60 - (intOf iv).toNat)
  case atStart => exact ⟨0, [], [], 1, by omega, by omega, rfl, rfl, rfl, rfl, r3_0 w, tx0, by simp, by simp, by omega, by simp⟩
  case round =>
    obtain ⟨i, sl, T, ln, hi, hil, rfl, rfl, rfl, rfl, hR, hTx, hsl, hTl, hl1, hl2⟩ := hrel
    have zs : (strB sl).size = sl.length := strB_size sl
    have HT : Hid (TxAt sl T ln) := hTx
    obtain ⟨Ks, hKs⟩ : ∃ Ks, T.map Tk.k = Ks := ⟨_, rfl⟩
    obtain ⟨Ns, hNs⟩ : ∃ Ns, T.map Tk.n = Ns := ⟨_, rfl⟩
    obtain ⟨Ls, hLs⟩ : ∃ Ls, T.map Tk.l = Ls := ⟨_, rfl⟩
    have kl : Ks.length = T.length := by rw [← hKs]; simp
    have nl : Ns.length = T.length := by rw [← hNs]; simp
    have ll : Ls.length = T.length := by rw [← hLs]; simp
    have hk60 : Ks.length ≤ 60 := by omega
    have hn60 : Ns.length ≤ 60 := by omega
    have hl60 : Ls.length ≤ 60 := by omega
    rw [hKs, hNs, hLs] at hR
    have HK : Hid (T.map Tk.k = Ks) := hKs
    have HNn : Hid (T.map Tk.n = Ns) := hNs
    have HL : Hid (T.map Tk.l = Ls) := hLs
    have KL : Hid (Ks.length = T.length ∧ Ns.length = T.length ∧ Ls.length = T.length) := ⟨kl, nl, ll⟩
    clear hTx hKs hNs hLs kl nl ll
    by_cases hgo : i < len ∧ i < 60
    · obtain ⟨hlt, h60⟩ := hgo
      obtain ⟨g, f, z, rfl, hc⟩ := HN.out i hlt
      have hc2 : wr.cell? ⟨g, f + i, none⟩ = some (.int .i64 z) := by
        rw [World.cell?_of_block (hR.low.block _ (World.block_lt_of_cell? w _ hc))]
        exact hc
      obtain ⟨p1, p2⟩ := placeI_bd z 1048576 (by omega)
      have hpl := place_any z 1048576 wr (by omega) (by omega)
      generalize placeI z 1048576 = v at *
      have HPL : Hid (Calls Try.prog 11 #[.int .i64 z, .int .i64 1048576] wr fun e w' => e = .returned (.int .i64 v) ∧ w' = wr) := hpl
      clear hpl hc
      rcases four_cases v with h4 | h4 | h4 | h4
      · have hap : strB sl ++ (⟨#[10]⟩ : ByteArray) = strB (sl ++ [10]) := strB_append sl [10]
        have hT2 := HT.out.ten
        cases ho : openT T with
        | true =>
          rw [ho, if_pos rfl] at hT2
          have HT2 : Hid (TxAt (sl ++ [10]) (T ++ [⟨4, [], 0, ln⟩]) (ln + 1)) := hT2
          clear hT2 ho
          go_wp2_with fail
          refine HPL.out.mono ?_
          rintro e w11 ⟨rfl, rfl⟩
          clear HPL
          go_wp2_with (at_builtin; refine wpList_append_lies _ rfl (.tmp 49) (.tmp 50) 38 rfl w.heap.size 3 i0 (.int .i64 0) 1 8 Try.underlying38 hi0 hz0 hz1 hz2 rfl (by decide) u6 Ks.length (ints Ks) rfl (hR.alloc _).a ⟨w11.heap.size, 0, none⟩ 1 1 [.int .i64 4] ?c0 rfl (one_new _ _ _) ?c1 (by omega) ?c2 ?c3 ?c4 _ rfl ?_)
          case c0 => simp [Act.eval]
          case c1 => intro u hu; simp at hu; subst hu; rfl
          case c2 => unfold maxLen; omega
          case c3 => omega
          case c4 => have := hR.low.size; simp; omega
          intro g12 cap12 w12 ho12 hg12 hat12 _
          have hR1 := (hR.alloc _).push hg12 (by simpa using hat12) ho12
          clear ho12 hg12 hat12
          go_wp2_with (at_builtin; refine wpList_append_lies _ rfl (.tmp 52) (.tmp 53) 38 rfl w.heap.size 3 i0 (.int .i64 0) 1 8 Try.underlying38 hi0 hz0 hz1 hz2 rfl (by decide) u7 Ns.length (ints Ns) rfl (hR1.alloc _).rot.a ⟨w12.heap.size, 0, none⟩ 1 1 [.int .i64 0] ?c0 rfl (one_new _ _ _) ?c1 (by omega) ?c2 ?c3 ?c4 _ rfl ?_)
          case c0 => simp [Act.eval]
          case c1 => intro u hu; simp at hu; subst hu; rfl
          case c2 => unfold maxLen; omega
          case c3 => omega
          case c4 => have := hR1.low.size; simp; omega
          intro g13 cap13 w13 ho13 hg13 hat13 _
          have hR2 := (hR1.alloc _).rot.push hg13 (by simpa using hat13) ho13
          clear ho13 hg13 hat13
          go_wp2_with (at_builtin; refine wpList_append_lies _ rfl (.tmp 55) (.tmp 57) 38 rfl w.heap.size 3 i0 (.int .i64 0) 1 8 Try.underlying38 hi0 hz0 hz1 hz2 rfl (by decide) u8 Ls.length (ints Ls) rfl (hR2.alloc _).rot.a ⟨w13.heap.size, 0, none⟩ 1 1 [.int .i64 ln] ?c0 rfl (one_new _ _ _) ?c1 (by omega) ?c2 ?c3 ?c4 _ rfl ?_)
          case c0 => simp [Act.eval]
          case c1 => intro u hu; simp at hu; subst hu; rfl
          case c2 => unfold maxLen; omega
          case c3 => omega
          case c4 => have := hR2.low.size; simp; omega
          intro g14 cap14 w14 ho14 hg14 hat14 _
          have hR3 := (hR2.alloc _).rot.push hg14 (by simpa using hat14) ho14
          clear ho14 hg14 hat14
          have hR4 := hR3.rot
          clear hR1 hR2 hR3
          go_wp2_with fail
          go_roundw
          case rel => exact ⟨i + 1, _, T ++ [⟨4, [], 0, ln⟩], ln + 1, by omega, by omega, by go_num, rfl, by go_num, by rw [open_snoc]; rfl, by rw [List.map_append, List.map_append, List.map_append, HK.out, HNn.out, HL.out]; exact hR4, HT2.out, by simp; omega, by simp; omega, by omega, by omega⟩
          case measure => simp [intOf]; omega
        | false =>
          have HOP : Hid (openT T = false) := ho
          rw [ho] at hT2
          have HT2 : Hid (TxAt (sl ++ [10]) T (ln + 1)) := hT2
          clear hT2 ho
          go_wp2_with fail
          refine HPL.out.mono ?_
          rintro e w11 ⟨rfl, rfl⟩
          clear HPL
          go_wp2_with fail
          go_roundw
          case rel => exact ⟨i + 1, _, T, ln + 1, by omega, by omega, by go_num, rfl, by go_num, by rw [HOP.out], by rw [HK.out, HNn.out, HL.out]; exact hR, HT2.out, by simp; omega, by omega, by omega, by omega⟩
          case measure => simp [intOf]; omega
      · obtain ⟨m, hm, hm3⟩ : ∃ m : Nat, v / 4 % 3 = (m : Int) ∧ m < 3 := ⟨(v / 4 % 3).toNat, by omega, by omega⟩
        have hsl2 := fun wx => word_slice m hm3 wx
        have hap : strB sl ++ strB (32 :: wordL m) = strB (sl ++ 32 :: wordL m) := strB_append sl (32 :: wordL m)
        have hwl : (wordL m).length ≤ 3 := by
          match m, hm3 with
          | 0, _ => decide
          | 1, _ => decide
          | 2, _ => decide
        have zw : (strB (32 :: wordL m)).size = (wordL m).length + 1 := by rw [strB_size]; rfl
        have HT2 : Hid (TxAt (sl ++ 32 :: wordL m) (T ++ [⟨1, wordL m, 0, ln⟩]) ln) := HT.out.word m
        generalize wordL m = wl at *
        go_wp2_with fail
        refine HPL.out.mono ?_
        rintro e w11 ⟨rfl, rfl⟩
        clear HPL
        go_wp2_with (at_builtin; refine wpList_append_lies _ rfl (.tmp 70) (.tmp 71) 38 rfl w.heap.size 3 i0 (.int .i64 0) 1 8 Try.underlying38 hi0 hz0 hz1 hz2 rfl (by decide) u6 Ks.length (ints Ks) rfl (hR.alloc _).a ⟨w11.heap.size, 0, none⟩ 1 1 [.int .i64 1] ?c0 rfl (one_new _ _ _) ?c1 (by omega) ?c2 ?c3 ?c4 _ rfl ?_)
        case c0 => simp [Act.eval]
        case c1 => intro u hu; simp at hu; subst hu; rfl
        case c2 => unfold maxLen; omega
        case c3 => omega
        case c4 => have := hR.low.size; simp; omega
        intro g12 cap12 w12 ho12 hg12 hat12 _
        have hR1 := (hR.alloc _).push hg12 (by simpa using hat12) ho12
        clear ho12 hg12 hat12
        go_wp2_with (at_builtin; refine wpList_append_lies _ rfl (.tmp 73) (.tmp 74) 38 rfl w.heap.size 3 i0 (.int .i64 0) 1 8 Try.underlying38 hi0 hz0 hz1 hz2 rfl (by decide) u7 Ns.length (ints Ns) rfl (hR1.alloc _).rot.a ⟨w12.heap.size, 0, none⟩ 1 1 [.int .i64 0] ?c0 rfl (one_new _ _ _) ?c1 (by omega) ?c2 ?c3 ?c4 _ rfl ?_)
        case c0 => simp [Act.eval]
        case c1 => intro u hu; simp at hu; subst hu; rfl
        case c2 => unfold maxLen; omega
        case c3 => omega
        case c4 => have := hR1.low.size; simp; omega
        intro g13 cap13 w13 ho13 hg13 hat13 _
        have hR2 := (hR1.alloc _).rot.push hg13 (by simpa using hat13) ho13
        clear ho13 hg13 hat13
        go_wp2_with (at_builtin; refine wpList_append_lies _ rfl (.tmp 76) (.tmp 78) 38 rfl w.heap.size 3 i0 (.int .i64 0) 1 8 Try.underlying38 hi0 hz0 hz1 hz2 rfl (by decide) u8 Ls.length (ints Ls) rfl (hR2.alloc _).rot.a ⟨w13.heap.size, 0, none⟩ 1 1 [.int .i64 ln] ?c0 rfl (one_new _ _ _) ?c1 (by omega) ?c2 ?c3 ?c4 _ rfl ?_)
        case c0 => simp [Act.eval]
        case c1 => intro u hu; simp at hu; subst hu; rfl
        case c2 => unfold maxLen; omega
        case c3 => omega
        case c4 => have := hR2.low.size; simp; omega
        intro g14 cap14 w14 ho14 hg14 hat14 _
        have hR3 := (hR2.alloc _).rot.push hg14 (by simpa using hat14) ho14
        clear ho14 hg14 hat14
        have hR4 := hR3.rot
        clear hR1 hR2 hR3
        go_wp2_with fail
        go_roundw
        case rel => exact ⟨i + 1, _, T ++ [⟨1, wl, 0, ln⟩], ln, by omega, by omega, by go_num, rfl, rfl, by rw [open_cat _ _ _ _ _ (by omega)], by rw [List.map_append, List.map_append, List.map_append, HK.out, HNn.out, HL.out]; exact hR4, HT2.out, by simp; omega, by simp; omega, by omega, by omega⟩
        case measure => simp [intOf]; omega
      · obtain ⟨d, hd, hd0, hd9⟩ : ∃ d : Int, v / 4 % 10 = d ∧ 0 ≤ d ∧ d ≤ 9 := ⟨v / 4 % 10, rfl, by omega, by omega⟩
        have hsl2 := fun wx => dig_slice d hd0 hd9 wx
        have hap1 : strB sl ++ (⟨#[32]⟩ : ByteArray) = strB (sl ++ [32]) := strB_append sl [32]
        have z1 : (strB (sl ++ [32])).size = sl.length + 1 := by rw [strB_size]; simp
        have hap2 : strB (sl ++ [32]) ++ strB [byteOf (d + 48)] = strB (sl ++ [32] ++ [byteOf (d + 48)]) := strB_append _ _
        have z2 : (strB [byteOf (d + 48)]).size = 1 := by rw [strB_size]; rfl
        have zl : (sl ++ [32] ++ [byteOf (d + 48)]).length = sl.length + 2 := by simp
        have HT2 : Hid (TxAt (sl ++ [32] ++ [byteOf (d + 48)]) (T ++ [⟨2, [], d, ln⟩]) ln) := HT.out.num d hd0 hd9
        generalize sl ++ [32] ++ [byteOf (d + 48)] = sx at *
        generalize sl ++ [32] = sy at *
        generalize byteOf (d + 48) = bd at *
        go_wp2_with fail
        refine HPL.out.mono ?_
        rintro e w11 ⟨rfl, rfl⟩
        clear HPL
        go_wp2_with (at_builtin; refine wpList_append_lies _ rfl (.tmp 93) (.tmp 94) 38 rfl w.heap.size 3 i0 (.int .i64 0) 1 8 Try.underlying38 hi0 hz0 hz1 hz2 rfl (by decide) u6 Ks.length (ints Ks) rfl (hR.alloc _).a ⟨w11.heap.size, 0, none⟩ 1 1 [.int .i64 2] ?c0 rfl (one_new _ _ _) ?c1 (by omega) ?c2 ?c3 ?c4 _ rfl ?_)
        case c0 => simp [Act.eval]
        case c1 => intro u hu; simp at hu; subst hu; rfl
        case c2 => unfold maxLen; omega
        case c3 => omega
        case c4 => have := hR.low.size; simp; omega
        intro g12 cap12 w12 ho12 hg12 hat12 _
        have hR1 := (hR.alloc _).push hg12 (by simpa using hat12) ho12
        clear ho12 hg12 hat12
        go_wp2_with (at_builtin; refine wpList_append_lies _ rfl (.tmp 96) (.tmp 100) 38 rfl w.heap.size 3 i0 (.int .i64 0) 1 8 Try.underlying38 hi0 hz0 hz1 hz2 rfl (by decide) u7 Ns.length (ints Ns) rfl (hR1.alloc _).rot.a ⟨w12.heap.size, 0, none⟩ 1 1 [.int .i64 d] ?c0 rfl (one_new _ _ _) ?c1 (by omega) ?c2 ?c3 ?c4 _ rfl ?_)
        case c0 => simp [Act.eval]
        case c1 => intro u hu; simp at hu; subst hu; rfl
        case c2 => unfold maxLen; omega
        case c3 => omega
        case c4 => have := hR1.low.size; simp; omega
        intro g13 cap13 w13 ho13 hg13 hat13 _
        have hR2 := (hR1.alloc _).rot.push hg13 (by simpa using hat13) ho13
        clear ho13 hg13 hat13
        go_wp2_with (at_builtin; refine wpList_append_lies _ rfl (.tmp 102) (.tmp 104) 38 rfl w.heap.size 3 i0 (.int .i64 0) 1 8 Try.underlying38 hi0 hz0 hz1 hz2 rfl (by decide) u8 Ls.length (ints Ls) rfl (hR2.alloc _).rot.a ⟨w13.heap.size, 0, none⟩ 1 1 [.int .i64 ln] ?c0 rfl (one_new _ _ _) ?c1 (by omega) ?c2 ?c3 ?c4 _ rfl ?_)
        case c0 => simp [Act.eval]
        case c1 => intro u hu; simp at hu; subst hu; rfl
        case c2 => unfold maxLen; omega
        case c3 => omega
        case c4 => have := hR2.low.size; simp; omega
        intro g14 cap14 w14 ho14 hg14 hat14 _
        have hR3 := (hR2.alloc _).rot.push hg14 (by simpa using hat14) ho14
        clear ho14 hg14 hat14
        have hR4 := hR3.rot
        clear hR1 hR2 hR3
        go_wp2_with fail
        go_roundw
        case rel => exact ⟨i + 1, _, T ++ [⟨2, [], d, ln⟩], ln, by omega, by omega, by go_num, rfl, rfl, by rw [open_cat _ _ _ _ _ (by omega)], by rw [List.map_append, List.map_append, List.map_append, HK.out, HNn.out, HL.out]; exact hR4, HT2.out, by omega, by simp; omega, by omega, by omega⟩
        case measure => simp [intOf]; omega
      · have hap : strB sl ++ (⟨#[44]⟩ : ByteArray) = strB (sl ++ [44]) := strB_append sl [44]
        have HT2 : Hid (TxAt (sl ++ [44]) (T ++ [⟨3, [44], 0, ln⟩]) ln) := HT.out.sign
        go_wp2_with fail
        refine HPL.out.mono ?_
        rintro e w11 ⟨rfl, rfl⟩
        clear HPL
        go_wp2_with (at_builtin; refine wpList_append_lies _ rfl (.tmp 34) (.tmp 35) 38 rfl w.heap.size 3 i0 (.int .i64 0) 1 8 Try.underlying38 hi0 hz0 hz1 hz2 rfl (by decide) u6 Ks.length (ints Ks) rfl (hR.alloc _).a ⟨w11.heap.size, 0, none⟩ 1 1 [.int .i64 3] ?c0 rfl (one_new _ _ _) ?c1 (by omega) ?c2 ?c3 ?c4 _ rfl ?_)
        case c0 => simp [Act.eval]
        case c1 => intro u hu; simp at hu; subst hu; rfl
        case c2 => unfold maxLen; omega
        case c3 => omega
        case c4 => have := hR.low.size; simp; omega
        intro g12 cap12 w12 ho12 hg12 hat12 _
        have hR1 := (hR.alloc _).push hg12 (by simpa using hat12) ho12
        clear ho12 hg12 hat12
        go_wp2_with (at_builtin; refine wpList_append_lies _ rfl (.tmp 37) (.tmp 38) 38 rfl w.heap.size 3 i0 (.int .i64 0) 1 8 Try.underlying38 hi0 hz0 hz1 hz2 rfl (by decide) u7 Ns.length (ints Ns) rfl (hR1.alloc _).rot.a ⟨w12.heap.size, 0, none⟩ 1 1 [.int .i64 0] ?c0 rfl (one_new _ _ _) ?c1 (by omega) ?c2 ?c3 ?c4 _ rfl ?_)
        case c0 => simp [Act.eval]
        case c1 => intro u hu; simp at hu; subst hu; rfl
        case c2 => unfold maxLen; omega
        case c3 => omega
        case c4 => have := hR1.low.size; simp; omega
        intro g13 cap13 w13 ho13 hg13 hat13 _
        have hR2 := (hR1.alloc _).rot.push hg13 (by simpa using hat13) ho13
        clear ho13 hg13 hat13
        go_wp2_with (at_builtin; refine wpList_append_lies _ rfl (.tmp 40) (.tmp 42) 38 rfl w.heap.size 3 i0 (.int .i64 0) 1 8 Try.underlying38 hi0 hz0 hz1 hz2 rfl (by decide) u8 Ls.length (ints Ls) rfl (hR2.alloc _).rot.a ⟨w13.heap.size, 0, none⟩ 1 1 [.int .i64 ln] ?c0 rfl (one_new _ _ _) ?c1 (by omega) ?c2 ?c3 ?c4 _ rfl ?_)
        case c0 => simp [Act.eval]
        case c1 => intro u hu; simp at hu; subst hu; rfl
        case c2 => unfold maxLen; omega
        case c3 => omega
        case c4 => have := hR2.low.size; simp; omega
        intro g14 cap14 w14 ho14 hg14 hat14 _
        have hR3 := (hR2.alloc _).rot.push hg14 (by simpa using hat14) ho14
        clear ho14 hg14 hat14
        have hR4 := hR3.rot
        clear hR1 hR2 hR3
        go_wp2_with fail
        go_roundw
        case rel => exact ⟨i + 1, _, T ++ [⟨3, [44], 0, ln⟩], ln, by omega, by omega, by go_num, rfl, rfl, by rw [open_cat _ _ _ _ _ (by omega)], by rw [List.map_append, List.map_append, List.map_append, HK.out, HNn.out, HL.out]; exact hR4, HT2.out, by simp; omega, by simp; omega, by omega, by omega⟩
        case measure => simp [intOf]; omega
    · have hend : i = len ∨ (i < len ∧ i = 60) := by omega
      have hD := HT.out.done (by omega)
      clear hgo HT
      cases ho : openT T with
      | true =>
        rw [ho, if_pos rfl] at hD
        have HD : Hid (lexF sl = (T ++ [⟨4, [], 0, ln⟩], 0, 0)) := hD
        clear hD ho
        rcases hend with rfl | ⟨h1, rfl⟩
        all_goals
          go_wp2_with (at_builtin; refine wpList_append_lies _ rfl (.tmp 107) (.tmp 108) 38 rfl w.heap.size 3 i0 (.int .i64 0) 1 8 Try.underlying38 hi0 hz0 hz1 hz2 rfl (by decide) u6 Ks.length (ints Ks) rfl (hR.alloc _).a ⟨wr.heap.size, 0, none⟩ 1 1 [.int .i64 4] ?c0 rfl (one_new _ _ _) ?c1 (by omega) ?c2 ?c3 ?c4 _ rfl ?_)
          case c0 => simp [Act.eval]
          case c1 => intro u hu; simp at hu; subst hu; rfl
          case c2 => unfold maxLen; omega
          case c3 => omega
          case c4 => have := hR.low.size; simp; omega
          intro g12 cap12 w12 ho12 hg12 hat12 _
          have hR1 := (hR.alloc _).push hg12 (by simpa using hat12) ho12
          clear ho12 hg12 hat12
          go_wp2_with (at_builtin; refine wpList_append_lies _ rfl (.tmp 110) (.tmp 111) 38 rfl w.heap.size 3 i0 (.int .i64 0) 1 8 Try.underlying38 hi0 hz0 hz1 hz2 rfl (by decide) u7 Ns.length (ints Ns) rfl (hR1.alloc _).rot.a ⟨w12.heap.size, 0, none⟩ 1 1 [.int .i64 0] ?c0 rfl (one_new _ _ _) ?c1 (by omega) ?c2 ?c3 ?c4 _ rfl ?_)
          case c0 => simp [Act.eval]
          case c1 => intro u hu; simp at hu; subst hu; rfl
          case c2 => unfold maxLen; omega
          case c3 => omega
          case c4 => have := hR1.low.size; simp; omega
          intro g13 cap13 w13 ho13 hg13 hat13 _
          have hR2 := (hR1.alloc _).rot.push hg13 (by simpa using hat13) ho13
          clear ho13 hg13 hat13
          go_wp2_with (at_builtin; refine wpList_append_lies _ rfl (.tmp 113) (.tmp 115) 38 rfl w.heap.size 3 i0 (.int .i64 0) 1 8 Try.underlying38 hi0 hz0 hz1 hz2 rfl (by decide) u8 Ls.length (ints Ls) rfl (hR2.alloc _).rot.a ⟨w13.heap.size, 0, none⟩ 1 1 [.int .i64 ln] ?c0 rfl (one_new _ _ _) ?c1 (by omega) ?c2 ?c3 ?c4 _ rfl ?_)
          case c0 => simp [Act.eval]
          case c1 => intro u hu; simp at hu; subst hu; rfl
          case c2 => unfold maxLen; omega
          case c3 => omega
          case c4 => have := hR2.low.size; simp; omega
          intro g14 cap14 w14 ho14 hg14 hat14 _
          have hR3 := (hR2.alloc _).rot.push hg14 (by simpa using hat14) ho14
          clear ho14 hg14 hat14
          have hR4 := hR3.rot
          clear hR1 hR2 hR3
          have hKc : (T ++ [(⟨4, [], 0, ln⟩ : Tk)]).map Tk.k = Ks ++ [4] := by rw [List.map_append, HK.out]; rfl
          have hNc : (T ++ [(⟨4, [], 0, ln⟩ : Tk)]).map Tk.n = Ns ++ [0] := by rw [List.map_append, HNn.out]; rfl
          have hLc : (T ++ [(⟨4, [], 0, ln⟩ : Tk)]).map Tk.l = Ls ++ [ln] := by rw [List.map_append, HL.out]; rfl
          have hcl : (T ++ [(⟨4, [], 0, ln⟩ : Tk)]).length ≤ 100 := by simp; omega
          generalize T ++ [(⟨4, [], 0, ln⟩ : Tk)] = C at *
          generalize Ks ++ [4] = Kc at *
          generalize Ns ++ [0] = Nc at *
          generalize Ls ++ [ln] = Lc at *
          generalize Value.slice (some ⟨g12, 0, none⟩) (Ks.length + 1) cap12 = kv at *
          generalize Value.slice (some ⟨g13, 0, none⟩) (Ns.length + 1) cap13 = nv at *
          generalize Value.slice (some ⟨g14, 0, none⟩) (Ls.length + 1) cap14 = lv at *
          clear hR
          obtain ⟨ka, kc, rfl⟩ := slice_of hR4.a
          obtain ⟨na, nc, rfl⟩ := slice_of hR4.b
          obtain ⟨la, lc, rfl⟩ := slice_of hR4.c
          have tl1 : ((C.length : Int) != (Kc.length : Int)) = false := by rw [← hKc]; simp
          go_wp2_with fail
          refine (All_l (l := sl) rfl _).mono ?_
          rintro e w20 ⟨ca, cc, he, hSC, hb⟩
          rw [HD.out] at he hSC
          simp only at he hSC
          subst he
          have hRk := hR4.kept hb
          have HSC : Hid (SlT w20 (.slice ca C.length cc) C) := hSC
          have HKc : Hid (C.map Tk.k = Kc) := hKc
          have HNc : Hid (C.map Tk.n = Nc) := hNc
          have HLc : Hid (C.map Tk.l = Lc) := hLc
          clear hSC hb hR4 hKc hNc hLc
          go_wp2_with fail
          obtain ⟨W, rfl⟩ : ∃ W, W = w20 := ⟨w20, rfl⟩
          go_loopw [14] (fun iv wx => ∃ j : Nat, j ≤ C.length ∧ iv = .int .i64 j ∧ Below W.heap.size W wx) (fun iv _ => C.length - (intOf iv).toNat)
          case atStart => exact ⟨0, by omega, rfl, Below.refl _ _⟩
          case round =>
            obtain ⟨j, hj, rfl, hBl⟩ := hrel
            by_cases hlt : j < C.length
            · obtain ⟨g, f, rfl, tC⟩ := (HSC.out.kept hBl).at hlt
              have hRj := hRk.kept hBl
              have jk : j < Kc.length := by rw [← HKc.out]; simpa using hlt
              have jn : j < Nc.length := by rw [← HNc.out]; simpa using hlt
              have jl : j < Lc.length := by rw [← HLc.out]; simpa using hlt
              obtain ⟨g1, c1, e1, k1⟩ := row_at hRj.a jk
              obtain ⟨g2, c2, e2, k2⟩ := row_at hRj.b jn
              obtain ⟨g3, c3, e3, k3⟩ := row_at hRj.c jl
              have x1 : Kc[j] = C[j].k := by simp [← HKc.out]
              have x2 : Nc[j] = C[j].n := by simp [← HNc.out]
              have x3 : Lc[j] = C[j].l := by simp [← HLc.out]
              rw [x1] at k1
              rw [x2] at k2
              rw [x3] at k3
              obtain ⟨rfl, rfl⟩ : ka = some ⟨g1, 0, none⟩ ∧ kc = c1 := by simpa using e1
              obtain ⟨rfl, rfl⟩ : na = some ⟨g2, 0, none⟩ ∧ nc = c2 := by simpa using e2
              obtain ⟨rfl, rfl⟩ : la = some ⟨g3, 0, none⟩ ∧ lc = c3 := by simpa using e3
              obtain ⟨u1, u2, u3, u4⟩ := tC
              have HB2 : Hid (∀ n : Nat, Below W.heap.size W (World.drewN _ n)) := fun n => drawsL hBl n
              generalize C[j] = tk at *
              clear e1 e2 e3 x1 x2 x3 hBl hRj
              go_wp2_with fail
              go_quiet (fail)
              go_wp2_with fail
              go_roundw
              case rel => exact ⟨j + 1, by omega, by go_num, HB2.out _⟩
              case measure => simp [intOf]; omega
            · obtain rfl : j = C.length := by omega
              have hb4 := below_then hRk.low hBl
              clear hBl
              go_wp2_with fail
              refine (awake_any _).mono ?_
              rintro e w5 ⟨rfl, hb'⟩
              have hb5 := below_then hb4 hb'
              go_wp2_with fail
              go_ret
              exact ⟨rfl, hb5⟩
      | false =>
        rw [ho] at hD
        have HD : Hid (lexF sl = (T, 0, 0)) := hD
        clear hD ho
        have hKc := HK.out
        have hNc := HNn.out
        have hLc := HL.out
        have hcl : T.length ≤ 100 := by omega
        rcases hend with rfl | ⟨h1, rfl⟩
        all_goals
          obtain ⟨ka, kc, rfl⟩ := slice_of hR.a
          obtain ⟨na, nc, rfl⟩ := slice_of hR.b
          obtain ⟨la, lc, rfl⟩ := slice_of hR.c
          have tl1 : ((T.length : Int) != (Ks.length : Int)) = false := by rw [← hKc]; simp
          go_wp2_with fail
          refine (All_l (l := sl) rfl _).mono ?_
          rintro e w20 ⟨ca, cc, he, hSC, hb⟩
          rw [HD.out] at he hSC
          simp only at he hSC
          subst he
          have hRk := hR.kept hb
          have HSC : Hid (SlT w20 (.slice ca T.length cc) T) := hSC
          have HKc : Hid (T.map Tk.k = Ks) := hKc
          have HNc : Hid (T.map Tk.n = Ns) := hNc
          have HLc : Hid (T.map Tk.l = Ls) := hLc
          clear hSC hb hR hKc hNc hLc
          go_wp2_with fail
          obtain ⟨W, rfl⟩ : ∃ W, W = w20 := ⟨w20, rfl⟩
          go_loopw [14] (fun iv wx => ∃ j : Nat, j ≤ T.length ∧ iv = .int .i64 j ∧ Below W.heap.size W wx) (fun iv _ => T.length - (intOf iv).toNat)
          case atStart => exact ⟨0, by omega, rfl, Below.refl _ _⟩
          case round =>
            obtain ⟨j, hj, rfl, hBl⟩ := hrel
            by_cases hlt : j < T.length
            · obtain ⟨g, f, rfl, tC⟩ := (HSC.out.kept hBl).at hlt
              have hRj := hRk.kept hBl
              have jk : j < Ks.length := by rw [← HKc.out]; simpa using hlt
              have jn : j < Ns.length := by rw [← HNc.out]; simpa using hlt
              have jl : j < Ls.length := by rw [← HLc.out]; simpa using hlt
              obtain ⟨g1, c1, e1, k1⟩ := row_at hRj.a jk
              obtain ⟨g2, c2, e2, k2⟩ := row_at hRj.b jn
              obtain ⟨g3, c3, e3, k3⟩ := row_at hRj.c jl
              have x1 : Ks[j] = T[j].k := by simp [← HKc.out]
              have x2 : Ns[j] = T[j].n := by simp [← HNc.out]
              have x3 : Ls[j] = T[j].l := by simp [← HLc.out]
              rw [x1] at k1
              rw [x2] at k2
              rw [x3] at k3
              obtain ⟨rfl, rfl⟩ : ka = some ⟨g1, 0, none⟩ ∧ kc = c1 := by simpa using e1
              obtain ⟨rfl, rfl⟩ : na = some ⟨g2, 0, none⟩ ∧ nc = c2 := by simpa using e2
              obtain ⟨rfl, rfl⟩ : la = some ⟨g3, 0, none⟩ ∧ lc = c3 := by simpa using e3
              obtain ⟨u1, u2, u3, u4⟩ := tC
              have HB2 : Hid (∀ n : Nat, Below W.heap.size W (World.drewN _ n)) := fun n => drawsL hBl n
              generalize T[j] = tk at *
              clear e1 e2 e3 x1 x2 x3 hBl hRj
              go_wp2_with fail
              go_quiet (fail)
              go_wp2_with fail
              go_roundw
              case rel => exact ⟨j + 1, by omega, by go_num, HB2.out _⟩
              case measure => simp [intOf]; omega
            · obtain rfl : j = T.length := by omega
              have hb4 := below_then hRk.low hBl
              clear hBl
              go_wp2_with fail
              refine (awake_any _).mono ?_
              rintro e w5 ⟨rfl, hb'⟩
              have hb5 := below_then hb4 hb'
              go_wp2_with fail
              go_ret
              exact ⟨rfl, hb5⟩
end Go.Proofs.Ytphkplliecfmjaa
