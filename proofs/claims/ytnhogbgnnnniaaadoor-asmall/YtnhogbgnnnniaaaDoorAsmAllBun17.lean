/-
  Helpers: L3Take, L3Take2, L3Take3.
-/
import Derived.Test.YtnhogbgnnnniaaaDoorAsmAllBun14
import Derived.Laws.Runes
import Derived.WalkLawsBesides
namespace Go.Proofs.YtnhogbgnnnniaaaDoor.L3
open Go.RowKit

def StepPost (r B : Nat) (o : Option St) (ln : Int) (w : World) (e : Ending) (w' : World) : Prop :=
  e = .returned (.bool o.isSome) ∧ ∃ tv wv st', Rd w' r B tv wv st' ∧ Fr r B w w' ∧ (∀ s, o = some s → st' = s) ∧ (o = none → st'.ln = ln)
theorem StepPost.no {r B : Nat} {o : Option St} {ln : Int} {w w' : World} {tv wv : Value} {st' : St} (ho : o = none) (h : Rd w' r B tv wv st') (hf : Fr r B w w') (hl : st'.ln = ln) : StepPost r B o ln w (.returned (.bool false)) w' := by
  subst ho
  exact ⟨rfl, tv, wv, st', h, hf, fun s e => (by cases e), fun _ => hl⟩
theorem StepPost.yes {r B : Nat} {o : Option St} {ln : Int} {w w' : World} {tv wv : Value} {st' : St} (ho : o = some st') (h : Rd w' r B tv wv st') (hf : Fr r B w w') : StepPost r B o ln w (.returned (.bool true)) w' := by
  subst ho
  exact ⟨rfl, tv, wv, st', h, hf, fun s e => (by cases e; rfl), fun e => (by cases e)⟩
theorem one_new (w : World) (x : Value) (t : TypeId) : ∀ j u, [x][j]? = some u → (w.alloc (.cells #[x] t)).cell? ((⟨w.heap.size, 0, none⟩ : Addr).add j) = some u := by
  intro j u hj
  match j, hj with
  | 0, hj => simp at hj; subst hj; simp [Addr.add]
theorem byteOf_nat {c : Int} (h0 : 0 ≤ c) (h1 : c ≤ 255) : ((byteOf c).toNat : Int) = c := by
  have : (byteOf c).toNat = c.toNat % 256 := by simp [byteOf]
  omega
set_option maxHeartbeats 1000000 in
theorem takeLetter_any (r B : Nat) (tv wv : Value) (st : St) (c : Int) (w : World) (h : Rd w r B tv wv st) (hc0 : 97 ≤ c) (hc1 : c ≤ 122) (hW : st.ws.length ≤ 100000) :
    Calls Tryd.prog 84 #[.pointer (some ⟨r, 0, none⟩), .int .i32 c] w fun e w' => StepPost r B (letF st c) st.ln w e w' := by
  obtain ⟨i0, hi, hz0, hz1, hz2⟩ := info_parts infoRune
  obtain ⟨-, -, c2, -, -, -⟩ := h.cells
  have f2 := h.frozen 2
  by_cases h3 : st.ins = 3
  · have t3 : (st.ins == 3) = true := by simp [h3]
    have ho : letF st c = none := if_pos (.inl h3)
    clear h3
    go_enter Tryd.func84, Tryd.ntmps84
    go_wp2_with fail
    go_ret
    exact .no (by first | exact ho | rfl) h (Fr.refl _ _ _) rfl
  · have t3 : (st.ins == 3) = false := by simp [h3]
    by_cases h4 : st.ins = 4
    · have t4 : (st.ins == 4) = true := by simp [h4]
      have ho : letF st c = none := if_pos (.inr h4)
      clear h3 h4
      go_enter Tryd.func84, Tryd.ntmps84
      go_wp2_with fail
      go_ret
      exact .no (by first | exact ho | rfl) h (Fr.refl _ _ _) rfl
    · have t4 : (st.ins == 4) = false := by simp [h4]
      have ho : letF st c = some ⟨st.T, st.ln, 2, st.ws ++ [byteOf c], st.num, st.sg⟩ := if_neg (fun h => h.elim h3 h4)
      clear h3 h4
      have hR1 := h.setIns 2
      obtain ⟨-, -, -, d3, -, -⟩ := hR1.1.cells
      have hsz := hR1.1.sz
      have hlt := hR1.1.lt
      go_enter Tryd.func84, Tryd.ntmps84
      go_wp2_with (at_builtin; refine wpList_append_lies _ rfl (.tmp 24) (.tmp 26) 97 rfl B 21 i0 (.int .i32 0) 1 4 Tryd.underlying97 hi hz0 hz1 hz2 rfl (by decide) wv st.ws.length (runeC st.ws) rfl (hR1.1.alloc _).wd ⟨(w.setCell ⟨r, 2, none⟩ (.int .i64 2)).heap.size, 0, none⟩ 1 1 [.int .i32 c] ?c0 rfl (one_new _ _ _) ?c1 (by omega) ?c2 ?c3 ?c4 _ rfl ?_)
      case c0 => simp [Act.eval]
      case c1 => intro u hu; simp at hu; subst hu; rfl
      case c2 => unfold maxLen; omega
      case c3 => omega
      case c4 => simp at hsz ⊢; omega
      intro g7 cap7 w7 hown7 hgrow7 hat7 hlt7
      have b7 := (hgrow7.block r (by simp at hsz ⊢; omega) (fun e => by have := hR1.1.wd.lt _ e.symm; omega)).trans (hR1.1.alloc _).box
      have c7 := cell_of_row w7 _ 3 _ _ _ b7
      simp at c7
      have f7 := frozen_of_row w7 _ 3 _ _ b7
      have hR2 := (hR1.1.alloc (.cells #[.int .i32 c] 21)).pushW (b := byteOf c) hgrow7 (by rw [byteOf_nat (by omega) (by omega)]; exact hown7)
      have hF : Fr r B w (w7.setCell ⟨r, 3, none⟩ (.slice (some ⟨g7, 0, none⟩) (st.ws.length + 1) cap7)) := (hR1.2.alloc (by omega) hsz _).trans hR2.2
      go_wp2_with fail
      go_ret
      exact .yes (by first | exact ho | rfl) hR2.1 hF
set_option maxHeartbeats 1000000 in
theorem takeDigit_any (r B : Nat) (tv wv : Value) (st : St) (d : Int) (w : World) (h : Rd w r B tv wv st) (hd0 : 0 ≤ d) (hd1 : d ≤ 9) (hn1 : -2147483648 ≤ st.num) (hn2 : st.num ≤ 2147483647) (hs1 : -1 ≤ st.sg) (hs2 : st.sg ≤ 1) :
    Calls Tryd.prog 85 #[.pointer (some ⟨r, 0, none⟩), .int .i64 d] w fun e w' => StepPost r B (digF st d) st.ln w e w' := by
  obtain ⟨-, -, c2, -, c4, c5⟩ := h.cells
  have f2 := h.frozen 2
  have f4 := h.frozen 4
  have f5 := h.frozen 5
  by_cases h2 : st.ins = 2
  · have t2 : (st.ins == 2) = true := by simp [h2]
    have ho : digF st d = none := if_pos h2
    clear h2
    go_enter Tryd.func85, Tryd.ntmps85
    go_wp2_with fail
    go_ret
    exact .no (by first | exact ho | rfl) h (Fr.refl _ _ _) rfl
  · have t2 : (st.ins == 2) = false := by simp [h2]
    have ho : digF st d = _ := if_neg h2
    clear h2
    have hsd : -9 ≤ sgF st * d ∧ sgF st * d ≤ 9 := by
      have : sgF st = -1 ∨ sgF st = 0 ∨ sgF st = 1 := by unfold sgF; split <;> omega
      rcases this with e | e | e <;> (rw [e]; omega)
    have hw1 : IntKind.i64.wrap (10 * st.num) = 10 * st.num := by simp [IntKind.wrap, IntKind.bits, IntKind.signed]; omega
    by_cases h0 : st.ins = 0
    · have t0 : (st.ins == 0) = true := by simp [h0]
      have hsg : sgF st = 1 := if_pos h0
      rw [hsg, Int.one_mul] at hsd ho
      clear h0 hsg
      have hw2 : IntKind.i64.wrap d = d := by simp [IntKind.wrap, IntKind.bits, IntKind.signed]; omega
      have hw3 : IntKind.i64.wrap (10 * st.num + d) = 10 * st.num + d := by simp [IntKind.wrap, IntKind.bits, IntKind.signed]; omega
      have hR1 := h.setSg 1
      have hR2 := hR1.1.setIns 4
      have hR3 := hR2.1.setNum (10 * st.num + d)
      have hF := ((hR1.2.trans hR2.2).trans hR3.2).drew
      have hR := hR3.1.drew
      have HR : Hid (Rd _ r B tv wv _) := hR
      have HF : Hid (Fr r B w _) := hF
      have HO : Hid (digF st d = _) := ho
      clear hR1 hR2 hR3 hF hR ho
      go_enter Tryd.func85, Tryd.ntmps85
      go_wp2_with fail
      go_region
      by_cases hr1 : -2147483648 ≤ 10 * st.num + d
      · by_cases hr2 : 10 * st.num + d ≤ 2147483647
        · have ho := HO.out.trans (if_pos ⟨hr1, hr2⟩)
          have HO2 : Hid (digF st d = _) := ho
          clear ho HO
          go_wp2_with fail
          go_ret
          exact .yes HO2.out HR.out HF.out
        · have e2 : decide (10 * st.num + d ≤ 2147483647) = false := by simpa using hr2
          have ho := HO.out.trans (if_neg fun h => hr2 h.2)
          have HO2 : Hid (digF st d = _) := ho
          clear ho HO hr2
          go_wp2_with fail
          go_ret
          exact .no HO2.out HR.out HF.out rfl
      · have e1 : decide (-2147483648 ≤ 10 * st.num + d) = false := by simpa using hr1
        have ho := HO.out.trans (if_neg fun h => hr1 h.1)
        have HO2 : Hid (digF st d = _) := ho
        clear ho HO hr1
        go_wp2_with fail
        go_ret
        exact .no HO2.out HR.out HF.out rfl
    · have t0 : (st.ins == 0) = false := by simp [h0]
      have hsg : sgF st = st.sg := if_neg h0
      rw [hsg] at hsd ho
      clear h0 hsg
      have hw2 : IntKind.i64.wrap (st.sg * d) = st.sg * d := by
        generalize st.sg * d = x at hsd ⊢
        simp [IntKind.wrap, IntKind.bits, IntKind.signed]; omega
      have hw3 : IntKind.i64.wrap (10 * st.num + st.sg * d) = 10 * st.num + st.sg * d := by
        generalize st.sg * d = x at hsd ⊢
        simp [IntKind.wrap, IntKind.bits, IntKind.signed]; omega
      have hR2 := h.setIns 4
      have hR3 := hR2.1.setNum (10 * st.num + st.sg * d)
      have hF := (hR2.2.trans hR3.2).drew
      have hR := hR3.1.drew
      have HR : Hid (Rd _ r B tv wv _) := hR
      have HF : Hid (Fr r B w _) := hF
      have HO : Hid (digF st d = _) := ho
      clear hR2 hR3 hF hR ho
      go_enter Tryd.func85, Tryd.ntmps85
      go_wp2_with fail
      go_region
      by_cases hr1 : -2147483648 ≤ 10 * st.num + st.sg * d
      · by_cases hr2 : 10 * st.num + st.sg * d ≤ 2147483647
        · have ho := HO.out.trans (if_pos ⟨hr1, hr2⟩)
          have HO2 : Hid (digF st d = _) := ho
          clear ho HO
          go_wp2_with fail
          go_ret
          exact .yes HO2.out HR.out HF.out
        · have e2 : decide (10 * st.num + st.sg * d ≤ 2147483647) = false := by simpa using hr2
          have ho := HO.out.trans (if_neg fun h => hr2 h.2)
          have HO2 : Hid (digF st d = _) := ho
          clear ho HO hr2
          go_wp2_with fail
          go_ret
          exact .no HO2.out HR.out HF.out rfl
      · have e1 : decide (-2147483648 ≤ 10 * st.num + st.sg * d) = false := by simpa using hr1
        have ho := HO.out.trans (if_neg fun h => hr1 h.1)
        have HO2 : Hid (digF st d = _) := ho
        clear ho HO hr1
        go_wp2_with fail
        go_ret
        exact .no HO2.out HR.out HF.out rfl
end Go.Proofs.YtnhogbgnnnniaaaDoor.L3
namespace Go.Proofs.YtnhogbgnnnniaaaDoor.L3
open Go.RowKit

theorem encode_low (b : UInt8) (h : b.toNat < 128) : Utf8.encode (b.toNat : Int) = ⟨#[b]⟩ := by
  have hv : Utf8.valid (b.toNat : Int) = true := by
    simp [Utf8.valid]
    omega
  unfold Utf8.encode
  simp [hv, h]
theorem runes_low : ∀ (ws : List UInt8) (acc : ByteArray), (∀ b ∈ ws, b.toNat < 128) → (ws.map fun b => (b.toNat : Int)).foldl (fun r n => r ++ Utf8.encode n) acc = ⟨acc.data ++ ws.toArray⟩
  | [], acc, _ => by simp
  | b :: ws, acc, h => by
    simp only [List.map_cons, List.foldl_cons]
    rw [encode_low b (h b (by simp)), runes_low ws _ fun x hx => h x (by simp [hx])]
    congr 1
    simp [ByteArray.data_append]
theorem runesBytes_low (ws : List UInt8) (h : ∀ b ∈ ws, b.toNat < 128) : runesBytes (ws.map fun b => (b.toNat : Int)) = strB ws := by
  rw [runesBytes, runes_low ws _ h]
  show (⟨#[] ++ ws.toArray⟩ : ByteArray) = strB ws
  simp [strB]
theorem word_string {w : World} {B : Nat} {wv : Value} {ws : List UInt8} (h : w.ownsRow B 21 1 wv ws.length (runeC ws)) (hl : ∀ b ∈ ws, b.toNat < 128) :
    (convert 97 9 wv).run Tryd.prog w = .ok (.string (strB ws)) w := by
  rcases h.2 with ⟨rfl, h0⟩ | ⟨g, cap, cur, rfl, hb, hg, hn, hc, hsz, ht⟩
  · obtain rfl : ws = [] := List.eq_nil_of_length_eq_zero h0
    rw [run_convert_runes_nil w 97 9 21 0 0 Tryd.underlying97 Tryd.underlying21 Tryd.underlying9]
    rfl
  · rw [run_convert_runes w 97 9 21 ⟨g, 0, none⟩ ws.length cap (ws.map fun b => (b.toNat : Int)) (by simp) Tryd.underlying97 Tryd.underlying21 Tryd.underlying9 ?_]
    · rw [List.take_of_length_le (by simp), runesBytes_low ws hl]
    · intro j hj
      simp at hj
      have := h.cellAt j (by omega)
      have e : (⟨g, 0, none⟩ : Addr).add j = ⟨g, j, none⟩ := by rw [Go.WideShapes.add_plain, Nat.zero_add]
      rw [e, this]
      simp [runeC, List.getD_eq_getElem?_getD, hj]
set_option maxHeartbeats 1000000 in
theorem finish_any (r B : Nat) (tv wv : Value) (st : St) (w : World) (h : Rd w r B tv wv st) (hT : st.T.length ≤ 100000) (hl : ∀ b ∈ st.ws, b.toNat < 128) :
    Calls Tryd.prog 86 #[.pointer (some ⟨r, 0, none⟩)] w fun e w' => StepPost r B (finF st) st.ln w e w' := by
  obtain ⟨-, -, c2, c3, c4, -⟩ := h.cells
  have f2 := h.frozen 2
  by_cases h3 : st.ins = 3
  · have t3 : (st.ins == 3) = true := by simp [h3]
    have HO : Hid (finF st = none) := if_pos h3
    clear h3
    go_enter Tryd.func86, Tryd.ntmps86
    go_wp2_with fail
    go_ret
    exact .no HO.out h (Fr.refl _ _ _) rfl
  · have t3 : (st.ins == 3) = false := by simp [h3]
    by_cases h2 : st.ins = 2
    · have t2 : (st.ins == 2) = true := by simp [h2]
      have HO : Hid (finF st = some ⟨st.T ++ [⟨1, st.ws, 0, st.ln⟩], st.ln, 0, [], st.num, st.sg⟩) := (if_neg h3).trans (if_pos h2)
      clear h3 h2
      have hcv := word_string h.wd hl
      obtain ⟨wa, wc, rfl⟩ := slice_of h.wd
      go_enter Tryd.func86, Tryd.ntmps86
      go_wp2_with fail
      refine (add_any r B _ _ st 1 0 0 st.ws w h hT).mono ?_
      rintro e w1 ⟨rfl, tv', hR1, hF1⟩
      have HR1 : Hid (Rd _ r B _ _ _) := hR1
      obtain ⟨-, -, d2, d3, -, -⟩ := hR1.cells
      have d2' : w1.cell? ⟨r, 2, none⟩ = some (.int .i64 st.ins) := d2
      have g2 := hR1.frozen 2
      have g3 := hR1.frozen 3
      have hR2 := hR1.cutW
      have hR3 := hR2.1.setIns 0
      have hF := (hF1.trans hR2.2).trans hR3.2
      have HF : Hid (Fr r B w _) := hF
      have HR : Hid (Rd _ r B tv' (.slice wa 0 wc) _) := hR3.1
      clear hR1 hR2 hR3 hF d2 hF1 hcv c2 c3 c4 f2
      go_wp2_with fail
      go_ret
      exact .yes HO.out HR.out HF.out
    · have t2 : (st.ins == 2) = false := by simp [h2]
      by_cases h4 : st.ins = 4
      · have t4 : (st.ins == 4) = true := by simp [h4]
        have HO : Hid (finF st = some ⟨st.T ++ [⟨2, [], st.num, st.ln⟩], st.ln, 0, st.ws, 0, st.sg⟩) := ((if_neg h3).trans (if_neg h2)).trans (if_pos h4)
        clear h3 h2 h4
        go_enter Tryd.func86, Tryd.ntmps86
        go_wp2_with fail
        refine (add_any r B _ _ st 2 st.num 0 [] w h hT).mono ?_
        rintro e w1 ⟨rfl, tv', hR1, hF1⟩
        obtain ⟨-, -, d2, -, d4, -⟩ := hR1.cells
        have d2' : w1.cell? ⟨r, 2, none⟩ = some (.int .i64 st.ins) := d2
        have d4' : w1.cell? ⟨r, 4, none⟩ = some (.int .i64 st.num) := d4
        have g2 := hR1.frozen 2
        have g4 := hR1.frozen 4
        have hR2 := hR1.setNum 0
        have hR3 := hR2.1.setIns 0
        have hF := (hF1.trans hR2.2).trans hR3.2
        have HF : Hid (Fr r B w _) := hF
        have HR : Hid (Rd _ r B tv' wv _) := hR3.1
        clear hR1 hR2 hR3 hF d2 d4 hF1 c2 c3 c4 f2
        go_wp2_with fail
        go_ret
        exact .yes HO.out HR.out HF.out
      · have t4 : (st.ins == 4) = false := by simp [h4]
        have HO : Hid (finF st = some ⟨st.T, st.ln, 0, st.ws, st.num, st.sg⟩) := ((if_neg h3).trans (if_neg h2)).trans (if_neg h4)
        clear h3 h2 h4
        have hR := h.setIns 0
        go_enter Tryd.func86, Tryd.ntmps86
        go_wp2_with fail
        go_ret
        exact .yes HO.out hR.1 hR.2
set_option maxHeartbeats 1000000 in
theorem takeOther_any (r B : Nat) (tv wv : Value) (st : St) (c : Int) (w : World) (h : Rd w r B tv wv st) (hT : st.T.length ≤ 100000) (hl1 : 0 ≤ st.ln) (hl2 : st.ln ≤ 100000) :
    Calls Tryd.prog 87 #[.pointer (some ⟨r, 0, none⟩), .int .i32 c] w fun e w' => StepPost r B (othF st c) st.ln w e w' := by
  obtain ⟨-, -, c2, -, -, c5⟩ := h.cells
  have f2 := h.frozen 2
  have f5 := h.frozen 5
  by_cases hb : c = 32 ∨ c = 9 ∨ c = 13
  · have HO : Hid (othF st c = some st) := if_pos hb
    rcases hb with rfl | rfl | rfl
    all_goals
      go_enter Tryd.func87, Tryd.ntmps87
      go_wp2_with fail
      go_ret
      exact .yes HO.out h (Fr.refl _ _ _)
  · by_cases h10 : c = 10
    · have HO : Hid (othF st c = some st.endL) := (if_neg hb).trans (if_pos h10)
      subst h10
      clear hb
      go_enter Tryd.func87, Tryd.ntmps87
      go_wp2_with fail
      refine (endLine_any r B _ _ st w h hT hl1 hl2).mono ?_
      rintro e w1 ⟨rfl, tv', hR1, hF1⟩
      go_wp2_with fail
      go_ret
      exact .yes HO.out hR1 hF1
    · by_cases h35 : c = 35
      · have HO : Hid (othF st c = some ⟨st.T, st.ln, 1, st.ws, st.num, st.sg⟩) := ((if_neg hb).trans (if_neg h10)).trans (if_pos h35)
        subst h35
        clear hb h10
        have hR := h.setIns 1
        go_enter Tryd.func87, Tryd.ntmps87
        go_wp2_with fail
        go_ret
        exact .yes HO.out hR.1 hR.2
      · by_cases h45 : c = 45
        · have HO : Hid (othF st c = some ⟨st.T, st.ln, 3, st.ws, st.num, -1⟩) := (((if_neg hb).trans (if_neg h10)).trans (if_neg h35)).trans (if_pos h45)
          subst h45
          clear hb h10 h35
          have hR1 := h.setIns 3
          have hR := hR1.1.setSg (-1)
          have hF := hR1.2.trans hR.2
          go_enter Tryd.func87, Tryd.ntmps87
          go_wp2_with fail
          go_ret
          exact .yes HO.out hR.1 hF
        · by_cases hs : c = 58 ∨ c = 44
          · have HO : Hid (othF st c = some ⟨st.T ++ [⟨3, [byteOf c], 0, st.ln⟩], st.ln, st.ins, st.ws, st.num, st.sg⟩) := ((((if_neg hb).trans (if_neg h10)).trans (if_neg h35)).trans (if_neg h45)).trans (if_pos hs)
            clear hb h10 h35 h45
            have hcv : (convert 21 9 (.int .i32 c)).run Tryd.prog w = .ok (.string (strB [byteOf c])) w := by
              rw [run_convert_int_string w 21 9 .i32 c (by rw [Tryd.underlying21]; rfl) Tryd.underlying9]
              rcases hs with rfl | rfl <;> rfl
            have hadd := add_any r B _ _ st 3 0 0 [byteOf c] w h hT
            generalize strB [byteOf c] = sb at hcv hadd
            rcases hs with rfl | rfl
            all_goals
              go_enter Tryd.func87, Tryd.ntmps87
              go_wp2_with fail
              refine hadd.mono ?_
              rintro e w1 ⟨rfl, tv', hR1, hF1⟩
              go_wp2_with fail
              go_ret
              exact .yes HO.out hR1 hF1
          · have HO : Hid (othF st c = none) := ((((if_neg hb).trans (if_neg h10)).trans (if_neg h35)).trans (if_neg h45)).trans (if_neg hs)
            have t1 : (c == 32) = false := by simp; omega
            have t2 : (c == 9) = false := by simp; omega
            have t3 : (c == 13) = false := by simp; omega
            have t4 : (c == 10) = false := by simp; omega
            have t5 : (c == 35) = false := by simp; omega
            have t6 : (c == 45) = false := by simp; omega
            have t7 : (c == 58) = false := by simp; omega
            have t8 : (c == 44) = false := by simp; omega
            clear hb h10 h35 h45 hs
            go_enter Tryd.func87, Tryd.ntmps87
            go_wp2_with fail
            go_ret
            exact .no HO.out h (Fr.refl _ _ _) rfl
end Go.Proofs.YtnhogbgnnnniaaaDoor.L3
namespace Go.Proofs.YtnhogbgnnnniaaaDoor.L3
open Go.RowKit

theorem takeF_let {st : St} {c : Int} (h1 : ¬ st.ins = 1) (ha : 97 ≤ c) (hb : c ≤ 122) : takeF st c = letF st c := by
  unfold takeF
  rw [if_neg (fun h => h1 h.1), if_pos ⟨ha, hb⟩]
theorem takeF_dig {st : St} {c : Int} (h1 : ¬ st.ins = 1) (ha : 48 ≤ c) (hb : c ≤ 57) : takeF st c = digF st (c - 48) := by
  unfold takeF
  rw [if_neg (fun h => h1 h.1), if_neg (by omega), if_pos ⟨ha, hb⟩]
theorem takeF_rest {st : St} {c : Int} (h1 : ¬ (st.ins = 1 ∧ c ≠ 10)) (ha : ¬ (97 ≤ c ∧ c ≤ 122)) (hb : ¬ (48 ≤ c ∧ c ≤ 57)) : takeF st c = (finF st).bind fun s => othF s c := by
  unfold takeF
  rw [if_neg h1, if_neg ha, if_neg hb]
set_option maxHeartbeats 1000000 in
theorem take_any (r B : Nat) (tv wv : Value) (st : St) (c : Int) (m : Nat) (w : World) (h : Rd w r B tv wv st) (hd : Bd st m) (hm : m ≤ 20000) (hc0 : 0 ≤ c) (hc1 : c ≤ 2147483647) :
    Calls Tryd.prog 55 #[.pointer (some ⟨r, 0, none⟩), .int .i32 c] w fun e w' => StepPost r B (takeF st c) st.ln w e w' := by
  obtain ⟨-, -, c2, -, -, -⟩ := h.cells
  have q1 := hd.toks
  have q2 := hd.wd
  have q3 := hd.ln1
  have q4 := hd.ln2
  by_cases h1 : st.ins = 1
  · have t1 : (st.ins == 1) = true := by simp [h1]
    by_cases h10 : c = 10
    · have ho := takeF_rest (st := st) (c := c) (fun h => h.2 h10) (by omega) (by omega)
      have HO : Hid (takeF st c = _) := ho
      subst h10
      clear h1 ho
      go_enter Tryd.func55, Tryd.ntmps55
      go_wp2_with fail
      refine (finish_any r B _ _ st w h (by omega) hd.low).mono ?_
      rintro e w1 ⟨rfl, tv1, wv1, st1, hR1, hF1, hs1, hn1⟩
      cases hfin : finF st with
      | none =>
        have hl1 := hn1 hfin
        have HO2 : Hid (takeF st 10 = none) := by rw [HO.out, hfin]; rfl
        clear HO hn1 hs1 hfin
        go_wp2_with fail
        go_ret
        exact .no HO2.out hR1 hF1 hl1
      | some s1 =>
        obtain rfl := hs1 _ hfin
        obtain ⟨p1, p2, p3⟩ := finF_bd hd hfin
        have HO2 : Hid (takeF st 10 = othF st1 10) := by rw [HO.out, hfin]; rfl
        clear HO hn1 hs1 hfin
        go_wp2_with fail
        refine (takeOther_any r B _ _ st1 10 w1 hR1 (by omega) (by omega) (by omega)).mono ?_
        rintro e w2 ⟨rfl, tv2, wv2, st2, hR2, hF2, hs2, hn2⟩
        go_wp2_with fail
        go_ret
        refine ⟨by rw [HO2.out]; rfl, tv2, wv2, st2, hR2, hF1.trans hF2, fun s e => hs2 s (by rw [← HO2.out]; exact e), fun e => ?_⟩
        rw [hn2 (by rw [← HO2.out]; exact e), p2]
    · have t10 : (c != 10) = true := by simp [h10]
      have HO : Hid (takeF st c = some st) := if_pos ⟨h1, h10⟩
      clear h1 h10
      go_enter Tryd.func55, Tryd.ntmps55
      go_wp2_with fail
      go_ret
      exact .yes HO.out h (Fr.refl _ _ _)
  · have t1 : (st.ins == 1) = false := by simp [h1]
    by_cases hlet : 97 ≤ c ∧ c ≤ 122
    · obtain ⟨ha, hb⟩ := hlet
      have HO : Hid (takeF st c = letF st c) := takeF_let h1 ha hb
      clear h1
      go_enter Tryd.func55, Tryd.ntmps55
      go_wp2_with fail
      refine (takeLetter_any r B _ _ st c w h ha hb (by omega)).mono ?_
      rintro e w1 ⟨rfl, tv1, wv1, st1, hR1, hF1, hs1, hn1⟩
      go_wp2_with fail
      go_ret
      exact ⟨by rw [HO.out]; rfl, tv1, wv1, st1, hR1, hF1, fun s e => hs1 s (by rw [← HO.out]; exact e), fun e => hn1 (by rw [← HO.out]; exact e)⟩
    · by_cases hdig : 48 ≤ c ∧ c ≤ 57
      · obtain ⟨ha, hb⟩ := hdig
        have HO : Hid (takeF st c = digF st (c - 48)) := takeF_dig h1 ha hb
        have x1 : decide (97 ≤ c) = false := by simp; omega
        have hw1 : IntKind.i32.wrap (c - 48) = c - 48 := by simp [IntKind.wrap, IntKind.bits, IntKind.signed]; omega
        have hw2 : IntKind.i64.wrap (c - 48) = c - 48 := by simp [IntKind.wrap, IntKind.bits, IntKind.signed]; omega
        clear h1 hlet
        go_enter Tryd.func55, Tryd.ntmps55
        go_wp2_with fail
        refine (takeDigit_any r B _ _ st (c - 48) w h (by omega) (by omega) hd.num1 hd.num2 hd.sg1 hd.sg2).mono ?_
        rintro e w1 ⟨rfl, tv1, wv1, st1, hR1, hF1, hs1, hn1⟩
        go_wp2_with fail
        go_ret
        exact ⟨by rw [HO.out]; rfl, tv1, wv1, st1, hR1, hF1, fun s e => hs1 s (by rw [← HO.out]; exact e), fun e => hn1 (by rw [← HO.out]; exact e)⟩
      · have ho := takeF_rest (st := st) (c := c) (fun h => h1 h.1) hlet hdig
        have HO : Hid (takeF st c = _) := ho
        clear h1 ho
        have key : ∀ s1, finF st = some s1 → s1.T.length ≤ 100000 ∧ 0 ≤ s1.ln ∧ s1.ln ≤ 100000 ∧ s1.ln = st.ln := fun s1 hfin => by
          obtain ⟨p1, p2, p3⟩ := finF_bd hd hfin
          exact ⟨by omega, by omega, by omega, p2⟩
        have KEY : Hid (∀ s1, finF st = some s1 → s1.T.length ≤ 100000 ∧ 0 ≤ s1.ln ∧ s1.ln ≤ 100000 ∧ s1.ln = st.ln) := key
        clear key
        have x1 : (decide (97 ≤ c) = false ∧ decide (48 ≤ c) = false) ∨ (decide (97 ≤ c) = false ∧ decide (48 ≤ c) = true ∧ decide (c ≤ 57) = false) ∨ (decide (97 ≤ c) = true ∧ decide (c ≤ 122) = false ∧ decide (48 ≤ c) = true ∧ decide (c ≤ 57) = false) := by
          simp
          omega
        clear hlet hdig
        have hlow := hd.low
        rcases x1 with ⟨x1, x2⟩ | ⟨x1, x2, x3⟩ | ⟨x1, x2, x3, x4⟩
        all_goals
          go_enter Tryd.func55, Tryd.ntmps55
          go_wp2_with fail
          refine (finish_any r B _ _ st w h (by omega) hlow).mono ?_
          rintro e w1 ⟨rfl, tv1, wv1, st1, hR1, hF1, hs1, hn1⟩
          cases hfin : finF st with
          | none =>
            have hl1 := hn1 hfin
            have HO2 : Hid (takeF st c = none) := by rw [HO.out, hfin]; rfl
            clear HO hn1 hs1 hfin KEY
            go_wp2_with fail
            go_ret
            exact .no HO2.out hR1 hF1 hl1
          | some s1 =>
            obtain rfl := hs1 _ hfin
            obtain ⟨p1, p2, p3, p4⟩ := KEY.out _ hfin
            have HO2 : Hid (takeF st c = othF st1 c) := by rw [HO.out, hfin]; rfl
            have HP : Hid (st1.ln = st.ln) := p4
            clear HO hn1 hs1 hfin KEY p4
            go_wp2_with fail
            refine (takeOther_any r B _ _ st1 c w1 hR1 p1 p2 p3).mono ?_
            rintro e w2 ⟨rfl, tv2, wv2, st2, hR2, hF2, hs2, hn2⟩
            go_wp2_with fail
            go_ret
            refine ⟨by rw [HO2.out]; rfl, tv2, wv2, st2, hR2, hF1.trans hF2, fun s e => hs2 s (by rw [← HO2.out]; exact e), fun e => ?_⟩
            rw [hn2 (by rw [← HO2.out]; exact e), HP.out]
end Go.Proofs.YtnhogbgnnnniaaaDoor.L3
