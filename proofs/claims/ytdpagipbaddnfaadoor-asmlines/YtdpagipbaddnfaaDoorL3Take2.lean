/-
  A reader's steps: finish, takeOther.
-/
import Derived.Test.YtdpagipbaddnfaaDoorL3Take
namespace Go.Proofs.YtdpagipbaddnfaaDoor.L3
open Go.RowKit

theorem encode_low (b : UInt8) (h : b.toNat < 128) : Utf8.encode (b.toNat : Int) = ⟨#[b]⟩ := by
  have hv : Utf8.valid (b.toNat : Int) = true := by
    simp [Utf8.valid]
    omega
  unfold Utf8.encode
  simp [hv, h]
theorem runes_low : ∀ (ws : List UInt8) (acc : ByteArray), (∀ b ∈ ws, b.toNat < 128) → (ws.map fun b => (b.toNat : Int)).foldl (fun r n => r ++ Utf8.encode n) acc = ⟨acc.data ++ ws.toArray⟩
  | [], acc, _ => by simp
  | b :: ws, acc, h => by
    simp only [List.map_cons, List.foldl_cons]
    rw [encode_low b (h b (by simp)), runes_low ws _ fun x hx => h x (by simp [hx])]
    congr 1
    simp [ByteArray.data_append]
theorem runesBytes_low (ws : List UInt8) (h : ∀ b ∈ ws, b.toNat < 128) : runesBytes (ws.map fun b => (b.toNat : Int)) = strB ws := by
  rw [runesBytes, runes_low ws _ h]
  show (⟨#[] ++ ws.toArray⟩ : ByteArray) = strB ws
  simp [strB]
theorem word_string {w : World} {B : Nat} {wv : Value} {ws : List UInt8} (h : w.ownsRow B 21 1 wv ws.length (runeC ws)) (hl : ∀ b ∈ ws, b.toNat < 128) :
    (convert 93 9 wv).run Tryd.prog w = .ok (.string (strB ws)) w := by
  rcases h.2 with ⟨rfl, h0⟩ | ⟨g, cap, cur, rfl, hb, hg, hn, hc, hsz, ht⟩
  · obtain rfl : ws = [] := List.eq_nil_of_length_eq_zero h0
    rw [run_convert_runes_nil w 93 9 21 0 0 Tryd.underlying93 Tryd.underlying21 Tryd.underlying9]
    rfl
  · rw [run_convert_runes w 93 9 21 ⟨g, 0, none⟩ ws.length cap (ws.map fun b => (b.toNat : Int)) (by simp) Tryd.underlying93 Tryd.underlying21 Tryd.underlying9 ?_]
    · rw [List.take_of_length_le (by simp), runesBytes_low ws hl]
    · intro j hj
      simp at hj
      have := h.cellAt j (by omega)
      have e : (⟨g, 0, none⟩ : Addr).add j = ⟨g, j, none⟩ := by rw [Go.WideShapes.add_plain, Nat.zero_add]
      rw [e, this]
      simp [runeC, List.getD_eq_getElem?_getD, hj]
set_option maxHeartbeats 1000000 in
theorem finish_any (r B : Nat) (tv wv : Value) (st : St) (w : World) (h : Rd w r B tv wv st) (hT : st.T.length ≤ 100000) (hl : ∀ b ∈ st.ws, b.toNat < 128) :
    Calls Tryd.prog 63 #[.pointer (some ⟨r, 0, none⟩)] w fun e w' => StepPost r B (finF st) st.ln w e w' := by
  obtain ⟨-, -, c2, c3, c4, -⟩ := h.cells
  have f2 := h.frozen 2
  by_cases h3 : st.ins = 3
  · have t3 : (st.ins == 3) = true := by simp [h3]
    have HO : Hid (finF st = none) := if_pos h3
    clear h3
    go_enter Tryd.func63, Tryd.ntmps63
    go_wp2_with fail
    go_ret
    exact .no HO.out h (Fr.refl _ _ _) rfl
  · have t3 : (st.ins == 3) = false := by simp [h3]
    by_cases h2 : st.ins = 2
    · have t2 : (st.ins == 2) = true := by simp [h2]
      have HO : Hid (finF st = some ⟨st.T ++ [⟨1, st.ws, 0, st.ln⟩], st.ln, 0, [], st.num, st.sg⟩) := (if_neg h3).trans (if_pos h2)
      clear h3 h2
      have hcv := word_string h.wd hl
      obtain ⟨wa, wc, rfl⟩ := slice_of h.wd
      go_enter Tryd.func63, Tryd.ntmps63
      go_wp2_with fail
      refine (add_any r B _ _ st 1 0 0 st.ws w h hT).mono ?_
      rintro e w1 ⟨rfl, tv', hR1, hF1⟩
      have HR1 : Hid (Rd _ r B _ _ _) := hR1
      obtain ⟨-, -, d2, d3, -, -⟩ := hR1.cells
      have d2' : w1.cell? ⟨r, 2, none⟩ = some (.int .i64 st.ins) := d2
      have g2 := hR1.frozen 2
      have g3 := hR1.frozen 3
      have hR2 := hR1.cutW
      have hR3 := hR2.1.setIns 0
      have hF := (hF1.trans hR2.2).trans hR3.2
      have HF : Hid (Fr r B w _) := hF
      have HR : Hid (Rd _ r B tv' (.slice wa 0 wc) _) := hR3.1
      clear hR1 hR2 hR3 hF d2 hF1 hcv c2 c3 c4 f2
      go_wp2_with fail
      go_ret
      exact .yes HO.out HR.out HF.out
    · have t2 : (st.ins == 2) = false := by simp [h2]
      by_cases h4 : st.ins = 4
      · have t4 : (st.ins == 4) = true := by simp [h4]
        have HO : Hid (finF st = some ⟨st.T ++ [⟨2, [], st.num, st.ln⟩], st.ln, 0, st.ws, 0, st.sg⟩) := ((if_neg h3).trans (if_neg h2)).trans (if_pos h4)
        clear h3 h2 h4
        go_enter Tryd.func63, Tryd.ntmps63
        go_wp2_with fail
        refine (add_any r B _ _ st 2 st.num 0 [] w h hT).mono ?_
        rintro e w1 ⟨rfl, tv', hR1, hF1⟩
        obtain ⟨-, -, d2, -, d4, -⟩ := hR1.cells
        have d2' : w1.cell? ⟨r, 2, none⟩ = some (.int .i64 st.ins) := d2
        have d4' : w1.cell? ⟨r, 4, none⟩ = some (.int .i64 st.num) := d4
        have g2 := hR1.frozen 2
        have g4 := hR1.frozen 4
        have hR2 := hR1.setNum 0
        have hR3 := hR2.1.setIns 0
        have hF := (hF1.trans hR2.2).trans hR3.2
        have HF : Hid (Fr r B w _) := hF
        have HR : Hid (Rd _ r B tv' wv _) := hR3.1
        clear hR1 hR2 hR3 hF d2 d4 hF1 c2 c3 c4 f2
        go_wp2_with fail
        go_ret
        exact .yes HO.out HR.out HF.out
      · have t4 : (st.ins == 4) = false := by simp [h4]
        have HO : Hid (finF st = some ⟨st.T, st.ln, 0, st.ws, st.num, st.sg⟩) := ((if_neg h3).trans (if_neg h2)).trans (if_neg h4)
        clear h3 h2 h4
        have hR := h.setIns 0
        go_enter Tryd.func63, Tryd.ntmps63
        go_wp2_with fail
        go_ret
        exact .yes HO.out hR.1 hR.2
set_option maxHeartbeats 1000000 in
theorem takeOther_any (r B : Nat) (tv wv : Value) (st : St) (c : Int) (w : World) (h : Rd w r B tv wv st) (hT : st.T.length ≤ 100000) (hl1 : 0 ≤ st.ln) (hl2 : st.ln ≤ 100000) :
    Calls Tryd.prog 64 #[.pointer (some ⟨r, 0, none⟩), .int .i32 c] w fun e w' => StepPost r B (othF st c) st.ln w e w' := by
  obtain ⟨-, -, c2, -, -, c5⟩ := h.cells
  have f2 := h.frozen 2
  have f5 := h.frozen 5
  by_cases hb : c = 32 ∨ c = 9 ∨ c = 13
  · have HO : Hid (othF st c = some st) := if_pos hb
    rcases hb with rfl | rfl | rfl
    all_goals
      go_enter Tryd.func64, Tryd.ntmps64
      go_wp2_with fail
      go_ret
      exact .yes HO.out h (Fr.refl _ _ _)
  · by_cases h10 : c = 10
    · have HO : Hid (othF st c = some st.endL) := (if_neg hb).trans (if_pos h10)
      subst h10
      clear hb
      go_enter Tryd.func64, Tryd.ntmps64
      go_wp2_with fail
      refine (endLine_any r B _ _ st w h hT hl1 hl2).mono ?_
      rintro e w1 ⟨rfl, tv', hR1, hF1⟩
      go_wp2_with fail
      go_ret
      exact .yes HO.out hR1 hF1
    · by_cases h35 : c = 35
      · have HO : Hid (othF st c = some ⟨st.T, st.ln, 1, st.ws, st.num, st.sg⟩) := ((if_neg hb).trans (if_neg h10)).trans (if_pos h35)
        subst h35
        clear hb h10
        have hR := h.setIns 1
        go_enter Tryd.func64, Tryd.ntmps64
        go_wp2_with fail
        go_ret
        exact .yes HO.out hR.1 hR.2
      · by_cases h45 : c = 45
        · have HO : Hid (othF st c = some ⟨st.T, st.ln, 3, st.ws, st.num, -1⟩) := (((if_neg hb).trans (if_neg h10)).trans (if_neg h35)).trans (if_pos h45)
          subst h45
          clear hb h10 h35
          have hR1 := h.setIns 3
          have hR := hR1.1.setSg (-1)
          have hF := hR1.2.trans hR.2
          go_enter Tryd.func64, Tryd.ntmps64
          go_wp2_with fail
          go_ret
          exact .yes HO.out hR.1 hF
        · by_cases hs : c = 58 ∨ c = 44
          · have HO : Hid (othF st c = some ⟨st.T ++ [⟨3, [byteOf c], 0, st.ln⟩], st.ln, st.ins, st.ws, st.num, st.sg⟩) := ((((if_neg hb).trans (if_neg h10)).trans (if_neg h35)).trans (if_neg h45)).trans (if_pos hs)
            clear hb h10 h35 h45
            have hcv : (convert 21 9 (.int .i32 c)).run Tryd.prog w = .ok (.string (strB [byteOf c])) w := by
              rw [run_convert_int_string w 21 9 .i32 c (by rw [Tryd.underlying21]; rfl) Tryd.underlying9]
              rcases hs with rfl | rfl <;> rfl
            have hadd := add_any r B _ _ st 3 0 0 [byteOf c] w h hT
            generalize strB [byteOf c] = sb at hcv hadd
            rcases hs with rfl | rfl
            all_goals
              go_enter Tryd.func64, Tryd.ntmps64
              go_wp2_with fail
              refine hadd.mono ?_
              rintro e w1 ⟨rfl, tv', hR1, hF1⟩
              go_wp2_with fail
              go_ret
              exact .yes HO.out hR1 hF1
          · have HO : Hid (othF st c = none) := ((((if_neg hb).trans (if_neg h10)).trans (if_neg h35)).trans (if_neg h45)).trans (if_neg hs)
            have t1 : (c == 32) = false := by simp; omega
            have t2 : (c == 9) = false := by simp; omega
            have t3 : (c == 13) = false := by simp; omega
            have t4 : (c == 10) = false := by simp; omega
            have t5 : (c == 35) = false := by simp; omega
            have t6 : (c == 45) = false := by simp; omega
            have t7 : (c == 58) = false := by simp; omega
            have t8 : (c == 44) = false := by simp; omega
            clear hb h10 h35 h45 hs
            go_enter Tryd.func64, Tryd.ntmps64
            go_wp2_with fail
            go_ret
            exact .no HO.out h (Fr.refl _ _ _) rfl
end Go.Proofs.YtdpagipbaddnfaaDoor.L3