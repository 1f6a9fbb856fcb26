/-
  Helpers: Stm2, Stm3, Range.
-/
import Derived.Test.YtnhogbgnnnniaaaDoorAsmAllBun29
namespace Go.Proofs.YtnhogbgnnnniaaaDoor
open Go.RowKit L3 Go.Maps

theorem stm_info : (Tryd.prog.info? 106).map (fun i => (i.zero, i.size, i.bytes)) = some (some (.agg #[.int .i64 0, .slice none 0 0, .int .i64 0]), 3, 40) := by kernel_rfl
theorem sl_mid (g f n c b k m : Nat) (h : n ≤ c) (hm : c ≤ 9223372036854775807) (h1 : b + (m + 1) = k) (h2 : k ≤ n) (w : World) : (Instr.slice 45 (.slice (some ⟨g, f, none⟩) n c) (some (.int .i64 (b : Int))) (some (.int .i64 (k : Int))) none).run Tryd.prog w = .ok (.slice (some ⟨g, f + b * 4, none⟩) (m + 1) (c - b)) w := by
  go_simp
  rw [if_pos (by omega), if_pos (by omega), if_neg (by omega)]
  congr 2
  omega
theorem take_drop_snoc {T : List Tk} {k bg : Nat} (h : k < T.length) (hb : bg ≤ k) : (T.take (k + 1)).drop bg = (T.take k).drop bg ++ [T[k]] := by
  rw [List.take_succ_eq_append_getElem h, List.drop_append_of_le_length (by simp; omega)]
theorem take_drop_nil (T : List Tk) (k : Nat) : (T.take k).drop k = [] := by simp
section
variable {w wr : World} {T : List Tk} {k bg : Nat} {all : List Sm} {last : Int} {v : Value} {vals : List Value}
theorem Stg.other (h : Stg w T wr k bg all last v vals) (hk : k < T.length) (h4 : ¬ T[k].k = 4) (o : Obj) : Stg w T (wr.alloc o) (k + 1) bg all last v vals := by
  have hg := h.go
  have hd := h.good
  rw [List.drop_eq_getElem_cons hk] at hg hd
  simp only [stmF] at hg
  rw [if_pos h4, ← take_drop_snoc hk h.bgk] at hg
  have hb := h.bgk
  refine ⟨h.map.below ((Below.refl _ _).alloc (Nat.le_refl _) _), h.own.kept ((Below.refl _ _).alloc (Nat.le_refl _) _), h.low.alloc h.low.size _, by have := h.big; simp; omega, by omega, by omega, hg, ?_, h.l0, h.l1, by have := h.cnt; omega⟩
  rw [decide_eq_true (by omega)]
  exact goodT_on hd h4
/-- the line that ends at k, without its End -/
theorem Stg.line (h : Stg w T wr k bg all last v vals) (hk : k < T.length) (h4 : T[k].k = 4) : ∃ c0 cr, (T.take k).drop bg = c0 :: cr ∧ bg + (cr.length + 1) = k ∧ goodT false (T.drop (k + 1)) := by
  have hd := h.good
  rw [List.drop_eq_getElem_cons hk] at hd
  obtain ⟨h1, h2⟩ := goodT_end hd h4
  have h3 : bg < k := of_decide_eq_true h1
  have hl : ((T.take k).drop bg).length = k - bg := by simp; omega
  cases hc : (T.take k).drop bg with
  | nil => rw [hc] at hl; simp at hl; omega
  | cons c0 cr => rw [hc] at hl; simp at hl; exact ⟨c0, cr, rfl, by omega, h2⟩
theorem Stg.told (h : Stg w T wr k bg all last v vals) (hk : k < T.length) (h4 : T[k].k = 4) (hr : readF ((T.take k).drop bg) = none) : stmF [] [] 0 T = .inl T[k].l := by
  have hg := h.go
  rw [List.drop_eq_getElem_cons hk] at hg
  simp only [stmF] at hg
  rw [if_neg (by simp [h4]), hr] at hg
  exact hg
theorem Stg.bad (h : Stg w T wr k bg all last v vals) (hk : k < T.length) (h4 : T[k].k = 4) {kd : Nat} {xs : List Int} (hr : readF ((T.take k).drop bg) = some (kd, xs)) (hf : followsB all.length kd = false) : stmF [] [] 0 T = .inl T[k].l := by
  have hg := h.go
  rw [List.drop_eq_getElem_cons hk] at hg
  simp only [stmF] at hg
  rw [if_neg (by simp [h4]), hr] at hg
  simp only [hf] at hg
  simpa using hg
theorem Stg.ok (h : Stg w T wr k bg all last v vals) (hk : k < T.length) (h4 : T[k].k = 4) {kd : Nat} {xs : List Int} (hr : readF ((T.take k).drop bg) = some (kd, xs)) (hf : followsB all.length kd = true) : stmF [] [] 0 T = stmF ((T.take (k + 1)).drop (k + 1)) (all ++ [⟨kd, xs, lineOf ((T.take k).drop bg)⟩]) T[k].l (T.drop (k + 1)) := by
  have hg := h.go
  rw [List.drop_eq_getElem_cons hk] at hg
  simp only [stmF] at hg
  rw [if_neg (by simp [h4]), hr] at hg
  simp only [hf, if_true] at hg
  rw [take_drop_nil]
  exact hg
end
theorem getElem_seg {T : List Tk} {k bg j : Nat} {c0 : Tk} {cr : List Tk} (h : (T.take k).drop bg = c0 :: cr) (hj : j < (c0 :: cr).length) (hb : bg + j < T.length) : T[bg + j] = (c0 :: cr)[j] := by
  have e : (c0 :: cr)[j]? = T[bg + j]? := by
    rw [← h, List.getElem?_drop, List.getElem?_take]
    have : ((T.take k).drop bg).length = (c0 :: cr).length := by rw [h]
    simp at this hj
    rw [if_pos (by omega)]
  rw [List.getElem?_eq_getElem hj, List.getElem?_eq_getElem hb] at e
  exact (Option.some.inj e).symm
end Go.Proofs.YtnhogbgnnnniaaaDoor
namespace Go.Proofs.YtnhogbgnnnniaaaDoor
open Go.RowKit L3 Go.Maps

theorem below_one (w : World) (o : Obj) : Below w.heap.size w (w.alloc o) := (Below.refl _ _).alloc (Nat.le_refl _) _
theorem three_new (w : World) (a b c : Value) (t : TypeId) : ∀ j u, [a, b, c][j]? = some u → (w.alloc (.cells #[a, b, c] t)).cell? ((⟨w.heap.size, 0, none⟩ : Addr).add j) = some u := by
  intro j u hj
  match j, hj with
  | 0, hj => simp at hj; subst hj; simp [Addr.add]
  | 1, hj => simp at hj; subst hj; simp [Addr.add]
  | 2, hj => simp at hj; subst hj; simp [Addr.add]
set_option maxRecDepth 4000 in
set_option maxHeartbeats 1000000 in
theorem statements_any (T : List Tk) (ta : Option Addr) (tc : Nat) (w : World) (hS : SlT w (.slice ta T.length tc) T) (hc : T.length ≤ tc) (hcm : tc ≤ 9223372036854775807) (hF : FTab w) (hn : T.length ≤ 20000) (hgood : goodT false T) (hw : ∀ t ∈ T, t.s.length ≤ 9000 ∧ 1 ≤ t.l ∧ t.l ≤ 9000) :
    Calls Tryd.prog 26 #[.slice ta T.length tc] w fun e w' => StmPost T w e w' := by
  obtain ⟨i0, hi, hz0, hz1, hz2⟩ := info_parts stm_info
  go_enter Tryd.func26, Tryd.ntmps26
  go_wp2_with (go_at_call 56; refine (kindsByWord_any _ hF).mono ?_; rintro e w1 ⟨rfl, hm1, hb1⟩)
  have hG0 : Stg w T w1 0 0 [] 0 (.slice none 0 0) [] := ⟨hm1, ⟨rfl, World.ownsRow_nil _ _ _ _, fun k h _ => by simp at h⟩, hb1, World.ownsMap.lt hm1, by omega, by omega, rfl, hgood, by omega, by omega, by simp⟩
  clear hm1 hb1
  go_loopw [5, 6, 7, 15] (fun av lv bv kv wr => ∃ (k bg : Nat) (all : List Sm) (last : Int) (sa : Option Addr) (sc : Nat) (vals : List Value), kv = .int .i64 k ∧ bv = .int .i64 bg ∧ lv = .int .i64 last ∧ av = .slice sa all.length sc ∧ Stg w T wr k bg all last av vals) (fun _ _ _ kv _ => T.length - (intOf kv).toNat)
  case atStart => exact ⟨0, 0, [], 0, none, 0, [], rfl, rfl, rfl, rfl, hG0⟩
  case round =>
    obtain ⟨k, bg, all, last, sa, sc, vals, rfl, rfl, rfl, rfl, hL⟩ := hrel
    clear hG0
    have hkle := hL.kle
    have hal := hL.cnt
    have hbig := hL.big
    have hl0 := hL.l0
    have hl1 := hL.l1
    by_cases hlt : k < T.length
    · obtain ⟨g, f, rfl, htk⟩ := hS.at hlt
      obtain ⟨b0, b1, b2, b3⟩ := tkAt_kept htk hL.low
      have hgw := block_lt_of_cell b0
      obtain ⟨u, hu⟩ : ∃ u, T[k] = u := ⟨_, rfl⟩
      by_cases h4 : T[k].k = 4
      · obtain ⟨c0, cr, hcur, hlen, hgd⟩ := hL.line hlt h4
        have e4 : (T[k].k != 4) = false := by simp [h4]
        have hsl := fun W => sl_mid g f T.length tc bg k cr.length hc hcm hlen hkle W
        have hc0m : c0 ∈ T := by
          have h1 : c0 ∈ (T.take k).drop bg := by rw [hcur]; simp
          exact List.mem_of_mem_take (List.mem_of_mem_drop h1)
        have hts := (hw c0 hc0m).1
        have hlu := (hw T[k] (List.getElem_mem hlt)).2
        have hlowT := hL.low.trans ((below_one wr (.cells #[.int .i64 T[k].k, .string (strB T[k].s), .int .i64 T[k].n, .int .i64 T[k].l] 104)).mono hL.low.size)
        have hseg : ∀ j (h : j < (c0 :: cr).length), TkAt (wr.alloc (.cells #[.int .i64 T[k].k, .string (strB T[k].s), .int .i64 T[k].n, .int .i64 T[k].l] 104)) g (f + bg * 4 + j * 4) (c0 :: cr)[j] := fun j h => by
          have hj : bg + j < T.length := by simp at h; omega
          obtain ⟨g', f', e', ht'⟩ := hS.at hj
          simp at e'
          obtain ⟨rfl, rfl⟩ := e'
          rw [getElem_seg hcur h hj] at ht'
          have := tkAt_kept ht' hlowT
          rw [show f + (bg + j) * 4 = f + bg * 4 + j * 4 by omega] at this
          exact this
        have hc0 : TkAt (wr.alloc (.cells #[.int .i64 T[k].k, .string (strB T[k].s), .int .i64 T[k].n, .int .i64 T[k].l] 104)) g (f + bg * 4) c0 := by
          have := hseg 0 (by simp)
          rw [List.getElem_cons_zero, Nat.zero_mul, Nat.add_zero] at this
          exact this
        have hcr : ∀ j (h : j < cr.length), TkAt (wr.alloc (.cells #[.int .i64 T[k].k, .string (strB T[k].s), .int .i64 T[k].n, .int .i64 T[k].l] 104)) g (f + bg * 4 + 4 + j * 4) cr[j] := fun j h => by
          have := hseg (j + 1) (by simp; omega)
          rw [show f + bg * 4 + (j + 1) * 4 = f + bg * 4 + 4 + j * 4 by omega] at this
          rw [List.getElem_cons_succ] at this
          exact this
        have hread := read_any c0 cr g (f + bg * 4) (tc - bg) w.heap.size (wr.alloc (.cells #[.int .i64 T[k].k, .string (strB T[k].s), .int .i64 T[k].n, .int .i64 T[k].l] 104)) hc0 hcr (by omega) (by omega) (hL.map.below (below_one _ _)) (hF.below hlowT) hts
        have HNO := hL.told hlt h4
        have HBAD : ∀ {kd : Nat} {xs : List Int}, readF ((T.take k).drop bg) = some (kd, xs) → followsB all.length kd = false → stmF [] [] 0 T = .inl T[k].l := fun hr hf => hL.bad hlt h4 hr hf
        have HOK : ∀ {kd : Nat} {xs : List Int}, readF ((T.take k).drop bg) = some (kd, xs) → followsB all.length kd = true → stmF [] [] 0 T = stmF ((T.take (k + 1)).drop (k + 1)) (all ++ [⟨kd, xs, lineOf ((T.take k).drop bg)⟩]) T[k].l (T.drop (k + 1)) := fun hr hf => hL.ok hlt h4 hr hf
        rw [hcur] at HNO HBAD HOK
        rw [hu] at HNO HBAD HOK e4 b0 b1 b2 b3 hlu hlowT hread
        have HL : Hid (Stg w T wr k bg all last (.slice sa all.length sc) vals) := hL
        have HNO2 : Hid (readF (c0 :: cr) = none → stmF [] [] 0 T = .inl u.l) := HNO
        have HBAD2 : Hid (∀ {kd : Nat} {xs : List Int}, readF (c0 :: cr) = some (kd, xs) → followsB all.length kd = false → stmF [] [] 0 T = .inl u.l) := HBAD
        have HOK2 : Hid (∀ {kd : Nat} {xs : List Int}, readF (c0 :: cr) = some (kd, xs) → followsB all.length kd = true → stmF [] [] 0 T = stmF ((T.take (k + 1)).drop (k + 1)) (all ++ [⟨kd, xs, lineOf (c0 :: cr)⟩]) u.l (T.drop (k + 1))) := HOK
        have HGD : Hid (goodT false (T.drop (k + 1))) := hgd
        have HCUR : Hid (bg + (cr.length + 1) = k) := hlen
        have HLT : Hid (k < T.length) := hlt
        clear HNO HBAD HOK hcur hgd hseg hc0 hcr h4 htk hu hL hlen
        go_wp2_with fail
        refine hread.mono ?_
        rintro e w2 ⟨hb2, hcase⟩
        clear hsl hread
        have htk2 : w2.heap[wr.heap.size]? = some (.cells #[.int .i64 u.k, .string (strB u.s), .int .i64 u.n, .int .i64 u.l] 104 (0, 0)) := (hb2.block _ (by simp)).trans (heap_alloc_new _ _)
        have c3 := cell_of_row w2 _ 3 _ _ _ htk2
        simp at c3
        have hz2l := lt_of_block htk2
        have hlow2 := hlowT.trans (hb2.mono (by have := hlowT.size; omega))
        rcases hcase with ⟨hr, rfl⟩ | ⟨kd, xs, oa, ol, oc, hr, rfl, ho⟩
        · have HP : Hid (StmPost T w (.returned (.tuple #[.slice none 0 0, .int .i64 u.l])) (w2.alloc (.cells #[.int .i64 0, .slice none 0 0, .int .i64 0] 106)).drew) := ⟨(hlow2.alloc (by omega) _).drew, .inl ⟨_, HNO2.out hr, rfl⟩⟩
          clear hlow2 hb2 hr htk2
          unfold noneV
          go_wp2_with fail
          go_region
          go_wp2_with fail
          exact bodyPost_ret (v := .tuple #[.slice none 0 0, .int .i64 u.l]) (by simp [results, Tryd.results26, go_sem]) rfl HP.out
        · obtain ⟨hx1, hk1, hk2⟩ := readF_ok hr
          obtain ⟨lnn, hlnn⟩ : ∃ x, lineOf (c0 :: cr) = x := ⟨_, rfl⟩
          have hHOK := HOK2.out hr
          rw [hlnn] at hHOK ⊢
          have hfol := follows_any all.length kd (by omega) (by omega) (w2.alloc (.cells #[.int .i64 (kd : Int), .slice oa ol oc, .int .i64 lnn] 106))
          cases hf : followsB all.length kd with
          | false =>
            have HP : Hid (StmPost T w (.returned (.tuple #[.slice none 0 0, .int .i64 u.l])) (w2.alloc (.cells #[.int .i64 (kd : Int), .slice oa ol oc, .int .i64 lnn] 106)).drew) := ⟨(hlow2.alloc (by omega) _).drew, .inl ⟨_, HBAD2.out hr hf, rfl⟩⟩
            rw [hf] at hfol
            clear hlow2 hb2 hr htk2 ho hHOK hf
            go_wp2_with (go_at_call 58; refine hfol.mono ?_; rintro e w3 ⟨rfl, rfl⟩)
            go_region
            go_wp2_with fail
            exact bodyPost_ret (v := .tuple #[.slice none 0 0, .int .i64 u.l]) (by simp [results, Tryd.results26, go_sem]) rfl HP.out
          | true =>
            rw [hf] at hfol
            have hHOK2 : Hid (stmF [] [] 0 T = stmF ((T.take (k + 1)).drop (k + 1)) (all ++ [⟨kd, xs, lnn⟩]) u.l (T.drop (k + 1))) := hHOK hf
            have hbw : Below wr.heap.size wr w2 := (below_one _ _).trans (hb2.mono (by simp))
            have hrow2 := (HL.out.own.kept hbw).row
            have ho2 : w2.ownsRow (w.heap.size + 1) 3 1 (.slice oa ol oc) xs.length (cellsN xs) := C2.owns_mono ho (by simp; omega)
            have HB : Hid (Below wr.heap.size wr ((w2.alloc (.cells #[.int .i64 (kd : Int), .slice oa ol oc, .int .i64 lnn] 106)).alloc (.cells #[.int .i64 (kd : Int), .slice oa ol oc, .int .i64 lnn] 106))) := (hbw.alloc hbw.size _).alloc (by have := hbw.size; simp; omega) _
            have hrow4 := (hrow2.alloc (.cells #[.int .i64 (kd : Int), .slice oa ol oc, .int .i64 lnn] 106)).alloc (.cells #[.int .i64 (kd : Int), .slice oa ol oc, .int .i64 lnn] 106)
            have HO : Hid (((w2.alloc (.cells #[.int .i64 (kd : Int), .slice oa ol oc, .int .i64 lnn] 106)).alloc (.cells #[.int .i64 (kd : Int), .slice oa ol oc, .int .i64 lnn] 106)).ownsRow (w.heap.size + 1) 3 1 (.slice oa ol oc) xs.length (cellsN xs)) := (ho2.alloc _).alloc _
            have HR : Hid (readF (c0 :: cr) = some (kd, xs)) := hr
            clear hr ho ho2 hrow2 hHOK hf
            go_wp2_with (first | (go_at_call 58; refine hfol.mono ?_; rintro e w3 ⟨rfl, rfl⟩) | (at_builtin; refine wpList_append_own _ rfl _ _ 48 rfl (w.heap.size + 1) 106 i0 (.agg #[.int .i64 0, .slice none 0 0, .int .i64 0]) 3 40 Tryd.underlying48 hi hz0 hz1 hz2 rfl (by decide) _ _ _ rfl hrow4 ⟨w2.heap.size + 1, 0, none⟩ 1 1 [.int .i64 (kd : Int), .slice oa ol oc, .int .i64 lnn] rfl rfl ?d1 ?d2 ?d3 ?d4 ?d5 ?_))
            case d1 =>
              have h := three_new (w2.alloc (.cells #[.int .i64 (kd : Int), .slice oa ol oc, .int .i64 lnn] 106)) (.int .i64 (kd : Int)) (.slice oa ol oc) (.int .i64 lnn) 106
              rw [show (w2.alloc (.cells #[.int .i64 (kd : Int), .slice oa ol oc, .int .i64 lnn] 106)).heap.size = w2.heap.size + 1 by simp] at h
              exact h
            case d2 => intro z hz; simp at hz; rcases hz with rfl | rfl | rfl <;> rfl
            case d3 => unfold maxLen; omega
            case d4 => omega
            case d5 => simp; omega
            intro v' w4 hown4 hgrow _
            obtain ⟨gg, cap, rfl⟩ := row_some hown4
            have hL := HL.out
            have hblk : ∀ g, (Value.slice sa all.length sc).ownBlock = some g → w.heap.size + 1 ≤ g ∧ g < wr.heap.size := fun g hg => ⟨own_blk hL.own.row hg, (hL.own.row.lt g hg).2⟩
            have hN : Hid (Stg w T w4 (k + 1) (k + 1) (all ++ [⟨kd, xs, lnn⟩]) u.l (.slice (some ⟨gg, 0, none⟩) (all.length + 1) cap) (vals ++ [.slice oa ol oc])) := by
              have hsz := hgrow.size
              have hs2 := HB.out.size
              refine ⟨World.ownsMap.kept (hL.map.below HB.out) hgrow (fun e => by have := (hblk _ e.symm).1; omega), hL.own.push (s := ⟨kd, xs, lnn⟩) HB.out hgrow hown4 HO.out ⟨_, _, _, rfl⟩, ?_, by omega, by omega, by have := HLT.out; omega, hHOK2.out, ?_, by omega, hlu.2, by have := hL.cnt; simp; omega⟩
              · exact (hL.low.trans (HB.out.mono hL.low.size)).trans ⟨hgrow.os, hgrow.tape, hgrow.output, hgrow.size, fun j hj => hgrow.block j (by omega) (fun e => by have := (hblk _ e.symm).1; omega)⟩
              · rw [decide_eq_false (by omega)]
                exact HGD.out
            have htk4 : w4.heap[wr.heap.size]? = _ := (hgrow.block _ (by simp; omega) (fun e => by have := (hblk _ e.symm).2; omega)).trans ((Below.heap_alloc _ _ _ (by simp; omega)).trans ((Below.heap_alloc _ _ _ (by omega)).trans htk2))
            have d3 := cell_of_row w4 _ 3 _ _ _ htk4
            simp at d3
            have hLT := HLT.out
            clear hL hgrow hown4 htk4 htk2 hlow2 hb2 hbw hblk hrow4
            go_wp2_with fail
            go_roundw
            case rel => exact ⟨k + 1, k + 1, all ++ [⟨kd, xs, lnn⟩], u.l, some ⟨gg, 0, none⟩, cap, vals ++ [.slice oa ol oc], by go_num, by go_num, rfl, by simp, hN.out⟩
            case measure => simp [intOf]; omega
      · have e4 : (T[k].k != 4) = true := by simp [h4]
        have hN : Hid (Stg w T (wr.alloc (.cells #[.int .i64 T[k].k, .string (strB T[k].s), .int .i64 T[k].n, .int .i64 T[k].l] 104)) (k + 1) bg all last (.slice sa all.length sc) vals) := hL.other hlt h4 _
        rw [hu] at hN e4 b0 b1 b2 b3
        clear hL h4 hu htk
        go_wp2_with fail
        go_roundw
        case rel => exact ⟨k + 1, bg, all, last, sa, sc, vals, by go_num, rfl, rfl, rfl, hN.out⟩
        case measure => simp [intOf]; omega
    · obtain rfl : k = T.length := by omega
      have hgo := hL.go
      rw [List.drop_length] at hgo
      simp only [stmF] at hgo
      by_cases h2 : all.length ≤ 2
      · rw [if_pos h2] at hgo
        have HP : Hid (StmPost T w (.returned (.tuple #[.slice none 0 0, .int .i64 (last + 1)])) wr) := ⟨hL.low, .inl ⟨_, hgo, rfl⟩⟩
        clear hgo hL
        go_wp2_with fail
        exact bodyPost_ret (v := .tuple #[.slice none 0 0, .int .i64 (last + 1)]) (by simp [results, Tryd.results26, go_sem]) rfl HP.out
      · rw [if_neg h2] at hgo
        have hd2 : decide (all.length ≤ 2) = false := by simpa using h2
        have hd3 : decide ((all.length : Int) ≤ 2) = false := by simp; omega
        have HP : Hid (StmPost T w (.returned (.tuple #[.slice sa all.length sc, .int .i64 0])) wr) := ⟨hL.low, .inr ⟨_, _, _, hgo, rfl, hL.own.slS⟩⟩
        clear hgo hL
        go_wp2_with fail
        exact bodyPost_ret (v := .tuple #[.slice sa all.length sc, .int .i64 0]) (by simp [results, Tryd.results26, go_sem]) rfl HP.out
end Go.Proofs.YtnhogbgnnnniaaaDoor
namespace Go.Proofs.YtnhogbgnnnniaaaDoor
open Go.RowKit L3
open C2 (inB shapeI insV Tab)

theorem awithin_any (v lo hi : Int) (w : World) : Calls Tryd.prog 92 #[.int .i64 v, .int .i64 lo, .int .i64 hi] w fun e w' => e = .returned (.bool (inB v lo hi)) ∧ w' = w := by
  by_cases h1 : lo ≤ v
  · by_cases h2 : v ≤ hi
    · have e : inB v lo hi = true := by simp [inB, h1, h2]
      rw [e]
      clear e
      go_enter Tryd.func92, Tryd.ntmps92
      go_wp2
      go_ret
      exact ⟨rfl, rfl⟩
    · have e : inB v lo hi = false := by simp [inB, h2]
      have h3 : decide (v ≤ hi) = false := by simpa using h2
      rw [e]
      clear e
      go_enter Tryd.func92, Tryd.ntmps92
      go_wp2
      go_ret
      exact ⟨rfl, rfl⟩
  · have e : inB v lo hi = false := by simp [inB, h1]
    have h3 : decide (lo ≤ v) = false := by simpa using h1
    rw [e]
    clear e
    go_enter Tryd.func92, Tryd.ntmps92
    go_wp2
    go_ret
    exact ⟨rfl, rfl⟩
theorem one_op {w : World} {v : Value} {xs : List Int} (h : SlN w v xs) (h1 : xs.length = 1) : ∃ g f c, v = .slice (some ⟨g, f, none⟩) 1 c ∧ w.cell? ⟨g, f, none⟩ = some (.int .i64 (x0 xs)) := by
  obtain ⟨a, c, rfl, hk⟩ := h
  obtain ⟨g, f, rfl, hc⟩ := hk 0 (by omega)
  refine ⟨g, f, c, by rw [h1], ?_⟩
  have e : x0 xs = xs[0] := by simp [x0, List.getD_eq_getElem?_getD, List.getElem?_eq_getElem (show 0 < xs.length by omega)]
  rw [e]
  simpa using hc
set_option maxRecDepth 4000 in
theorem inRange_any (k : Nat) (xs : List Int) (l : Int) (v : Value) (w : World) (hT : Tab w) (hS : SlN w v xs) (hx : (xs.length : Int) = opsOf k) (hk : k ≤ 19) :
    Calls Tryd.prog 64 #[.agg #[.int .i64 (k : Int), v, .int .i64 l]] w fun e w' => e = .returned (.bool (rangeB ⟨k, xs, l⟩)) ∧ Below w.heap.size w w' := by
  have hb : Below w.heap.size w (w.alloc (.cells #[.int .i64 (k : Int), v, .int .i64 l] 106)) := below_one _ _
  by_cases h15 : k ≤ 15
  · have e1 : ((k : Int) == 16) = false := by simp; omega
    have e2 : ((k : Int) == 17) = false := by simp; omega
    have e3 : ((k : Int) == 18) = false := by simp; omega
    have e4 : ((k : Int) == 19) = false := by simp; omega
    have e5 : rangeB ⟨k, xs, l⟩ = shapeI (insOf k xs) := by
      simp only [rangeB]
      rw [if_neg (by omega), if_neg (by omega), if_neg (by omega), if_neg (by omega)]
    have h3 : xs.length ≤ 3 := by have := opsOf_bd k; omega
    have hS2 := hS.kept hb
    have hins := instruction_any k xs v _ h3 hS2
    rw [e5]
    obtain ⟨a, c, rfl, _⟩ := hS
    have hT2 := hT.below hb
    have HB : Hid (Below w.heap.size w (w.alloc (.cells #[.int .i64 (k : Int), .slice a xs.length c, .int .i64 l] 106))) := hb
    clear e5 h3 hS2 hb hT
    go_enter Tryd.func64, Tryd.ntmps64
    go_wp2_with fail
    refine hins.mono ?_
    rintro e w1 ⟨rfl, hb1⟩
    have hT3 := hT2.below hb1
    unfold insV
    go_wp2_with fail
    refine (C2.shape_any _ _ _ _ w1 hT3).mono ?_
    rintro e w2 ⟨rfl, hb2⟩
    have HP : Hid (Below w.heap.size w w2) := below_then (below_then HB.out hb1) hb2
    go_wp2_with fail
    go_ret
    exact ⟨rfl, HP.out⟩
  · have hk4 : k = 16 ∨ k = 17 ∨ k = 18 ∨ k = 19 := by omega
    rcases hk4 with rfl | rfl | rfl | rfl
    · obtain ⟨g, f, c, rfl, hc⟩ := one_op hS (by have : opsOf 16 = 1 := rfl; omega)
      have hg := block_lt_of_cell hc
      have e5 : rangeB ⟨16, xs, l⟩ = inB (x0 xs) 0 16 := rfl
      rw [e5]
      have HB : Hid _ := hb
      clear hb hS e5
      go_enter Tryd.func64, Tryd.ntmps64
      go_wp2_with (go_at_call 92; refine (awithin_any _ _ _ _).mono ?_; rintro e w1 ⟨rfl, rfl⟩)
      go_ret
      exact ⟨rfl, HB.out⟩
    · obtain ⟨g, f, c, rfl, hc⟩ := one_op hS (by have : opsOf 17 = 1 := rfl; omega)
      have hg := block_lt_of_cell hc
      have e5 : rangeB ⟨17, xs, l⟩ = inB (x0 xs) 0 5 := rfl
      rw [e5]
      have HB : Hid _ := hb
      clear hb hS e5
      go_enter Tryd.func64, Tryd.ntmps64
      go_wp2_with (go_at_call 92; refine (awithin_any _ _ _ _).mono ?_; rintro e w1 ⟨rfl, rfl⟩)
      go_ret
      exact ⟨rfl, HB.out⟩
    · obtain ⟨g, f, c, rfl, hc⟩ := one_op hS (by have : opsOf 18 = 1 := rfl; omega)
      have hg := block_lt_of_cell hc
      have e5 : rangeB ⟨18, xs, l⟩ = inB (x0 xs) 1 500 := rfl
      rw [e5]
      have HB : Hid _ := hb
      clear hb hS e5
      go_enter Tryd.func64, Tryd.ntmps64
      go_wp2_with (go_at_call 92; refine (awithin_any _ _ _ _).mono ?_; rintro e w1 ⟨rfl, rfl⟩)
      go_ret
      exact ⟨rfl, HB.out⟩
    · obtain ⟨a, c, rfl, _⟩ := hS
      have e5 : rangeB ⟨19, xs, l⟩ = true := rfl
      rw [e5]
      have HB : Hid _ := hb
      clear hb e5
      go_enter Tryd.func64, Tryd.ntmps64
      go_wp2_with fail
      go_ret
      exact ⟨rfl, HB.out⟩
theorem SlS.at {w : World} {sa : Option Addr} {sc : Nat} {all : List Sm} (h : SlS w (.slice sa all.length sc) all) {k : Nat} (hk : k < all.length) : ∃ g f oa ol oc, sa = some ⟨g, f, none⟩ ∧ w.cell? ⟨g, f + k * 3, none⟩ = some (.int .i64 (all[k].k : Int)) ∧ w.cell? ⟨g, f + k * 3 + 1, none⟩ = some (.slice oa ol oc) ∧ w.cell? ⟨g, f + k * 3 + 2, none⟩ = some (.int .i64 all[k].l) ∧ SlN w (.slice oa ol oc) all[k].xs := by
  obtain ⟨a, c, e, hh⟩ := h
  simp at e
  obtain ⟨rfl, rfl⟩ := e
  exact hh k hk
set_option maxRecDepth 4000 in
theorem firstOut_any (all : List Sm) (sa : Option Addr) (sc : Nat) (w : World) (hT : Tab w) (hS : SlS w (.slice sa all.length sc) all) (ho : Oks all) (hn : all.length ≤ 20000) :
    Calls Tryd.prog 29 #[.slice sa all.length sc] w fun e w' => e = .returned (.int .i64 (outF all)) ∧ Below w.heap.size w w' := by
  go_enter Tryd.func29, Tryd.ntmps29
  go_wp2_with fail
  go_loopw [7] (fun i wr => ∃ k : Nat, k ≤ all.length ∧ i = .int .i64 k ∧ outF all = outF (all.drop k) ∧ Below w.heap.size w wr) (fun i _ => all.length - (intOf i).toNat)
  case atStart => exact ⟨0, by omega, rfl, rfl, Below.refl _ _⟩
  case round =>
    obtain ⟨k, hk, rfl, hout, hb⟩ := hrel
    by_cases hlt : k < all.length
    · obtain ⟨g, f, oa, ol, oc, rfl, c0, c1, c2, hN⟩ := (hS.kept hb).at hlt
      have hg := block_lt_of_cell c0
      have hok := ho k hlt
      rw [List.drop_eq_getElem_cons hlt] at hout
      obtain ⟨s, hs⟩ : ∃ s, all[k] = s := ⟨_, rfl⟩
      rw [hs] at c0 c2 hN hok hout
      have hrg := inRange_any s.k s.xs s.l (.slice oa ol oc) (wr.alloc (.cells #[.int .i64 (s.k : Int), .slice oa ol oc, .int .i64 s.l] 106)) (hT.below (below_alloc hb _)) (hN.kept (below_one _ _)) hok.ops hok.hi
      have HO : Hid (outF all = outF (s :: all.drop (k + 1))) := hout
      have HB : Hid (Below w.heap.size w wr) := hb
      clear hs hN hok hout hb
      cases hr : rangeB s with
      | true =>
        have hr' : rangeB ⟨s.k, s.xs, s.l⟩ = true := hr
        have HO2 : Hid (outF all = outF (all.drop (k + 1))) := by have := HO.out; simp only [outF, hr, if_true] at this; exact this
        rw [hr'] at hrg
        clear hr hr' HO
        go_wp2_with fail
        refine hrg.mono ?_
        rintro e w1 ⟨rfl, hb1⟩
        have HB2 : Hid (Below w.heap.size w w1) := below_then (below_alloc HB.out _) hb1
        clear hb1
        go_wp2_with fail
        go_roundw
        case rel => exact ⟨k + 1, by omega, by go_num, HO2.out, HB2.out⟩
        case measure => simp [intOf]; omega
      | false =>
        have hr' : rangeB ⟨s.k, s.xs, s.l⟩ = false := hr
        have ho2 : outF all = s.l := by have := HO.out; simp only [outF, hr] at this; simpa using this
        have HO2 : Hid (outF all = s.l) := ho2
        rw [hr'] at hrg
        clear hr hr' HO ho2
        go_wp2_with fail
        refine hrg.mono ?_
        rintro e w1 ⟨rfl, hb1⟩
        have HB2 : Hid (Below w.heap.size w w1) := below_then (below_alloc HB.out _) hb1
        have d2 : w1.cell? ⟨wr.heap.size, 2, none⟩ = some (.int .i64 s.l) := by
          rw [World.cell?_of_block (hb1.block _ (by simp))]
          simp
        clear hb1
        go_wp2_with fail
        go_ret
        exact ⟨by rw [HO2.out]; rfl, HB2.out⟩
    · obtain rfl : k = all.length := by omega
      rw [List.drop_length] at hout
      have HO : Hid (outF all = 0) := hout
      have HB : Hid (Below w.heap.size w wr) := hb
      clear hout hb
      go_wp2_with fail
      go_ret
      exact ⟨by rw [HO.out]; rfl, HB.out⟩
end Go.Proofs.YtnhogbgnnnniaaaDoor
