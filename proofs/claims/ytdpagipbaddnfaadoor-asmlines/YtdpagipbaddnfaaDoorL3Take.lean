/-
  A reader's steps: takeLetter, takeDigit, finish, takeOther.
-/
import Derived.Test.YtdpagipbaddnfaaDoorL3Rd
import Derived.Laws.Runes
import Derived.WalkLawsBesides
namespace Go.Proofs.YtdpagipbaddnfaaDoor.L3
open Go.RowKit

def StepPost (r B : Nat) (o : Option St) (ln : Int) (w : World) (e : Ending) (w' : World) : Prop :=
  e = .returned (.bool o.isSome) ∧ ∃ tv wv st', Rd w' r B tv wv st' ∧ Fr r B w w' ∧ (∀ s, o = some s → st' = s) ∧ (o = none → st'.ln = ln)
theorem StepPost.no {r B : Nat} {o : Option St} {ln : Int} {w w' : World} {tv wv : Value} {st' : St} (ho : o = none) (h : Rd w' r B tv wv st') (hf : Fr r B w w') (hl : st'.ln = ln) : StepPost r B o ln w (.returned (.bool false)) w' := by
  subst ho
  exact ⟨rfl, tv, wv, st', h, hf, fun s e => (by cases e), fun _ => hl⟩
theorem StepPost.yes {r B : Nat} {o : Option St} {ln : Int} {w w' : World} {tv wv : Value} {st' : St} (ho : o = some st') (h : Rd w' r B tv wv st') (hf : Fr r B w w') : StepPost r B o ln w (.returned (.bool true)) w' := by
  subst ho
  exact ⟨rfl, tv, wv, st', h, hf, fun s e => (by cases e; rfl), fun e => (by cases e)⟩
theorem one_new (w : World) (x : Value) (t : TypeId) : ∀ j u, [x][j]? = some u → (w.alloc (.cells #[x] t)).cell? ((⟨w.heap.size, 0, none⟩ : Addr).add j) = some u := by
  intro j u hj
  match j, hj with
  | 0, hj => simp at hj; subst hj; simp [Addr.add]
theorem byteOf_nat {c : Int} (h0 : 0 ≤ c) (h1 : c ≤ 255) : ((byteOf c).toNat : Int) = c := by
  have : (byteOf c).toNat = c.toNat % 256 := by simp [byteOf]
  omega
set_option maxHeartbeats 1000000 in
theorem takeLetter_any (r B : Nat) (tv wv : Value) (st : St) (c : Int) (w : World) (h : Rd w r B tv wv st) (hc0 : 97 ≤ c) (hc1 : c ≤ 122) (hW : st.ws.length ≤ 100000) :
    Calls Tryd.prog 61 #[.pointer (some ⟨r, 0, none⟩), .int .i32 c] w fun e w' => StepPost r B (letF st c) st.ln w e w' := by
  obtain ⟨i0, hi, hz0, hz1, hz2⟩ := info_parts infoRune
  obtain ⟨-, -, c2, -, -, -⟩ := h.cells
  have f2 := h.frozen 2
  by_cases h3 : st.ins = 3
  · have t3 : (st.ins == 3) = true := by simp [h3]
    have ho : letF st c = none := if_pos (.inl h3)
    clear h3
    go_enter Tryd.func61, Tryd.ntmps61
    go_wp2_with fail
    go_ret
    exact .no (by first | exact ho | rfl) h (Fr.refl _ _ _) rfl
  · have t3 : (st.ins == 3) = false := by simp [h3]
    by_cases h4 : st.ins = 4
    · have t4 : (st.ins == 4) = true := by simp [h4]
      have ho : letF st c = none := if_pos (.inr h4)
      clear h3 h4
      go_enter Tryd.func61, Tryd.ntmps61
      go_wp2_with fail
      go_ret
      exact .no (by first | exact ho | rfl) h (Fr.refl _ _ _) rfl
    · have t4 : (st.ins == 4) = false := by simp [h4]
      have ho : letF st c = some ⟨st.T, st.ln, 2, st.ws ++ [byteOf c], st.num, st.sg⟩ := if_neg (fun h => h.elim h3 h4)
      clear h3 h4
      have hR1 := h.setIns 2
      obtain ⟨-, -, -, d3, -, -⟩ := hR1.1.cells
      have hsz := hR1.1.sz
      have hlt := hR1.1.lt
      go_enter Tryd.func61, Tryd.ntmps61
      go_wp2_with (at_builtin; refine wpList_append_lies _ rfl (.tmp 24) (.tmp 26) 93 rfl B 21 i0 (.int .i32 0) 1 4 Tryd.underlying93 hi hz0 hz1 hz2 rfl (by decide) wv st.ws.length (runeC st.ws) rfl (hR1.1.alloc _).wd ⟨(w.setCell ⟨r, 2, none⟩ (.int .i64 2)).heap.size, 0, none⟩ 1 1 [.int .i32 c] ?c0 rfl (one_new _ _ _) ?c1 (by omega) ?c2 ?c3 ?c4 _ rfl ?_)
      case c0 => simp [Act.eval]
      case c1 => intro u hu; simp at hu; subst hu; rfl
      case c2 => unfold maxLen; omega
      case c3 => omega
      case c4 => simp at hsz ⊢; omega
      intro g7 cap7 w7 hown7 hgrow7 hat7 hlt7
      have b7 := (hgrow7.block r (by simp at hsz ⊢; omega) (fun e => by have := hR1.1.wd.lt _ e.symm; omega)).trans (hR1.1.alloc _).box
      have c7 := cell_of_row w7 _ 3 _ _ _ b7
      simp at c7
      have f7 := frozen_of_row w7 _ 3 _ _ b7
      have hR2 := (hR1.1.alloc (.cells #[.int .i32 c] 21)).pushW (b := byteOf c) hgrow7 (by rw [byteOf_nat (by omega) (by omega)]; exact hown7)
      have hF : Fr r B w (w7.setCell ⟨r, 3, none⟩ (.slice (some ⟨g7, 0, none⟩) (st.ws.length + 1) cap7)) := (hR1.2.alloc (by omega) hsz _).trans hR2.2
      go_wp2_with fail
      go_ret
      exact .yes (by first | exact ho | rfl) hR2.1 hF
set_option maxHeartbeats 1000000 in
theorem takeDigit_any (r B : Nat) (tv wv : Value) (st : St) (d : Int) (w : World) (h : Rd w r B tv wv st) (hd0 : 0 ≤ d) (hd1 : d ≤ 9) (hn1 : -2147483648 ≤ st.num) (hn2 : st.num ≤ 2147483647) (hs1 : -1 ≤ st.sg) (hs2 : st.sg ≤ 1) :
    Calls Tryd.prog 62 #[.pointer (some ⟨r, 0, none⟩), .int .i64 d] w fun e w' => StepPost r B (digF st d) st.ln w e w' := by
  obtain ⟨-, -, c2, -, c4, c5⟩ := h.cells
  have f2 := h.frozen 2
  have f4 := h.frozen 4
  have f5 := h.frozen 5
  by_cases h2 : st.ins = 2
  · have t2 : (st.ins == 2) = true := by simp [h2]
    have ho : digF st d = none := if_pos h2
    clear h2
    go_enter Tryd.func62, Tryd.ntmps62
    go_wp2_with fail
    go_ret
    exact .no (by first | exact ho | rfl) h (Fr.refl _ _ _) rfl
  · have t2 : (st.ins == 2) = false := by simp [h2]
    have ho : digF st d = _ := if_neg h2
    clear h2
    have hsd : -9 ≤ sgF st * d ∧ sgF st * d ≤ 9 := by
      have : sgF st = -1 ∨ sgF st = 0 ∨ sgF st = 1 := by unfold sgF; split <;> omega
      rcases this with e | e | e <;> (rw [e]; omega)
    have hw1 : IntKind.i64.wrap (10 * st.num) = 10 * st.num := by simp [IntKind.wrap, IntKind.bits, IntKind.signed]; omega
    by_cases h0 : st.ins = 0
    · have t0 : (st.ins == 0) = true := by simp [h0]
      have hsg : sgF st = 1 := if_pos h0
      rw [hsg, Int.one_mul] at hsd ho
      clear h0 hsg
      have hw2 : IntKind.i64.wrap d = d := by simp [IntKind.wrap, IntKind.bits, IntKind.signed]; omega
      have hw3 : IntKind.i64.wrap (10 * st.num + d) = 10 * st.num + d := by simp [IntKind.wrap, IntKind.bits, IntKind.signed]; omega
      have hR1 := h.setSg 1
      have hR2 := hR1.1.setIns 4
      have hR3 := hR2.1.setNum (10 * st.num + d)
      have hF := ((hR1.2.trans hR2.2).trans hR3.2).drew
      have hR := hR3.1.drew
      have HR : Hid (Rd _ r B tv wv _) := hR
      have HF : Hid (Fr r B w _) := hF
      have HO : Hid (digF st d = _) := ho
      clear hR1 hR2 hR3 hF hR ho
      go_enter Tryd.func62, Tryd.ntmps62
      go_wp2_with fail
      go_region
      by_cases hr1 : -2147483648 ≤ 10 * st.num + d
      · by_cases hr2 : 10 * st.num + d ≤ 2147483647
        · have ho := HO.out.trans (if_pos ⟨hr1, hr2⟩)
          have HO2 : Hid (digF st d = _) := ho
          clear ho HO
          go_wp2_with fail
          go_ret
          exact .yes HO2.out HR.out HF.out
        · have e2 : decide (10 * st.num + d ≤ 2147483647) = false := by simpa using hr2
          have ho := HO.out.trans (if_neg fun h => hr2 h.2)
          have HO2 : Hid (digF st d = _) := ho
          clear ho HO hr2
          go_wp2_with fail
          go_ret
          exact .no HO2.out HR.out HF.out rfl
      · have e1 : decide (-2147483648 ≤ 10 * st.num + d) = false := by simpa using hr1
        have ho := HO.out.trans (if_neg fun h => hr1 h.1)
        have HO2 : Hid (digF st d = _) := ho
        clear ho HO hr1
        go_wp2_with fail
        go_ret
        exact .no HO2.out HR.out HF.out rfl
    · have t0 : (st.ins == 0) = false := by simp [h0]
      have hsg : sgF st = st.sg := if_neg h0
      rw [hsg] at hsd ho
      clear h0 hsg
      have hw2 : IntKind.i64.wrap (st.sg * d) = st.sg * d := by
        generalize st.sg * d = x at hsd ⊢
        simp [IntKind.wrap, IntKind.bits, IntKind.signed]; omega
      have hw3 : IntKind.i64.wrap (10 * st.num + st.sg * d) = 10 * st.num + st.sg * d := by
        generalize st.sg * d = x at hsd ⊢
        simp [IntKind.wrap, IntKind.bits, IntKind.signed]; omega
      have hR2 := h.setIns 4
      have hR3 := hR2.1.setNum (10 * st.num + st.sg * d)
      have hF := (hR2.2.trans hR3.2).drew
      have hR := hR3.1.drew
      have HR : Hid (Rd _ r B tv wv _) := hR
      have HF : Hid (Fr r B w _) := hF
      have HO : Hid (digF st d = _) := ho
      clear hR2 hR3 hF hR ho
      go_enter Tryd.func62, Tryd.ntmps62
      go_wp2_with fail
      go_region
      by_cases hr1 : -2147483648 ≤ 10 * st.num + st.sg * d
      · by_cases hr2 : 10 * st.num + st.sg * d ≤ 2147483647
        · have ho := HO.out.trans (if_pos ⟨hr1, hr2⟩)
          have HO2 : Hid (digF st d = _) := ho
          clear ho HO
          go_wp2_with fail
          go_ret
          exact .yes HO2.out HR.out HF.out
        · have e2 : decide (10 * st.num + st.sg * d ≤ 2147483647) = false := by simpa using hr2
          have ho := HO.out.trans (if_neg fun h => hr2 h.2)
          have HO2 : Hid (digF st d = _) := ho
          clear ho HO hr2
          go_wp2_with fail
          go_ret
          exact .no HO2.out HR.out HF.out rfl
      · have e1 : decide (-2147483648 ≤ 10 * st.num + st.sg * d) = false := by simpa using hr1
        have ho := HO.out.trans (if_neg fun h => hr1 h.1)
        have HO2 : Hid (digF st d = _) := ho
        clear ho HO hr1
        go_wp2_with fail
        go_ret
        exact .no HO2.out HR.out HF.out rfl
end Go.Proofs.YtdpagipbaddnfaaDoor.L3