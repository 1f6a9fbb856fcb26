/-
  The reference's Text: its walk.
-/
import Derived.Test.YtdpagipbaddnfaaDoorRTxt2
namespace Go.Proofs.YtdpagipbaddnfaaDoor
open Go.RowKit L3
open C2 (In Pr shapeI SlF SlI InsAt putE putT BoxedP)

theorem UT_fin {p : Pr} {i : Nat} {f : List In} {k : Nat} (h : k < f.length) {S : ByteArray} (hS : S = strB (UT (QT p i f k) f[k] (opsOf f[k].o.toNat).toNat)) : Value.string (S ++ ⟨#[10]⟩) = .string (strB (QT p i f (k + 1))) := by
  rw [hS, ← QT_step p i f k h, ← strB_append]
  rfl
theorem UT_more {q : List UInt8} {x : In} {j : Nat} (h : j < 3) (h0 : 0 < j) {S D : ByteArray} (hS : S = strB (UT q x j)) (hD : D = strB (decB (abc x j))) : Value.string (S ++ ⟨#[44]⟩ ++ ⟨#[32]⟩ ++ D) = .string (strB (UT q x (j + 1))) := by
  rw [hS, hD, UT_step q x j h, if_pos h0, ← strB_append, ← strB_append, ← strB_append]
  rfl
theorem UT_one {q : List UInt8} {x : In} {S D : ByteArray} (hS : S = strB (UT q x 0)) (hD : D = strB (decB (abc x 0))) : Value.string (S ++ ⟨#[32]⟩ ++ D) = .string (strB (UT q x (0 + 1))) := by
  rw [hS, hD, UT_step q x 0 (by omega), if_neg (by omega), List.append_nil, ← strB_append, ← strB_append]
  rfl
theorem UT_first {q : List UInt8} {x : In} {S D : ByteArray} (hS : S = strB q) (hD : D = strB (wordOf x.o.toNat)) : Value.string (S ++ ⟨#[32, 32]⟩ ++ D) = .string (strB (UT q x 0)) := by
  rw [hS, hD, UT_zero, ← strB_append, ← strB_append]
  rfl
theorem QT_first {p : Pr} {i : Nat} (f : List In) {S : ByteArray} (hS : S = strB (RT p i)) : Value.string (S ++ ⟨#[102, 117, 110, 99, 116, 105, 111, 110, 10]⟩) = .string (strB (QT p i f 0)) := by
  rw [hS, QT_zero, ← strB_append]
  rfl
theorem hd3_str {p : Pr} {S1 S2 S3 : ByteArray} (h1 : S1 = strB (decB p.futs)) (h2 : S2 = strB (decB p.depth)) (h3 : S3 = strB (decB p.fuel)) : Value.string (⟨#[102, 117, 116, 117, 114, 101, 115, 32]⟩ ++ S1 ++ ⟨#[10, 100, 101, 112, 116, 104, 32]⟩ ++ S2 ++ ⟨#[10, 102, 117, 101, 108, 32]⟩ ++ S3 ++ ⟨#[10]⟩) = .string (strB (RT p 0)) := by
  rw [h1, h2, h3, RT_zero, hd3_eq, ← strB_append, ← strB_append, ← strB_append, ← strB_append, ← strB_append, ← strB_append]
  rfl
theorem str_len {l : List UInt8} {S : ByteArray} {n : Nat} (h : S = strB l) (hl : l.length ≤ n) : S.size ≤ n := by
  rw [h, strB_size]
  exact hl
def decS (v : Int) : ByteArray := strB (decB v)
theorem rdecS (v : Int) (h : inR v) (w : World) : Calls Tryd.prog 37 #[.int .i64 v] w fun e w' => e = .returned (.string (decS v)) ∧ ∃ m, w' = w.drewN m := rdec_any v (by unfold inR at h; omega) (by unfold inR at h; omega) w
def RTextPost (p : Pr) (w : World) (e : Ending) (w' : World) : Prop := e = .returned (.string (strB (txtF p))) ∧ Below w.heap.size w w'
set_option maxRecDepth 4000 in
set_option maxHeartbeats 4000000 in
theorem RText_any (p : Pr) (fv : Value) (w : World) (hF : SlF w fv p.fs) (hn : p.fs.length ≤ 1000000) (hm : ∀ f ∈ p.fs, f.length ≤ 1000000) :
    Calls Tryd.prog 15 #[.agg #[fv, .int .i64 p.futs, .int .i64 p.depth, .int .i64 p.fuel]] w fun e w' => RTextPost p w e w' := by
  have hF0 := hF
  obtain ⟨fa, fc, rfl, -⟩ := hF0
  have hB1 := BoxedP.made hF
  have hb1 := below_alloc (Below.refl w.heap.size w) (.cells #[.slice fa p.fs.length fc, .int .i64 p.futs, .int .i64 p.depth, .int .i64 p.fuel] 24)
  have hput := C2.RPut_any p _ _ hB1.fns hn hm
  clear hF
  go_enter Tryd.func15, Tryd.ntmps15
  go_wp2_with fail
  refine hput.mono ?_
  rintro e w1 ⟨rfl, hb1'⟩
  have hb2 := below_then hb1 hb1'
  have hB2 := hB1.kept hb1'
  clear hput hb1 hb1' hB1
  by_cases hp : putE p = 0
  · have hg := C2.good_of_code hp
    have HTX : Hid (txtF p = textP p) := show txtF p = textP p by unfold txtF; rw [if_pos hp]
    rw [hp]
    clear hp
    obtain ⟨d0, d1, d2, d3⟩ := hB2.cells
    have hgb := block_lt_of_cell d0
    have i1 : inR p.futs := by have := hg.futs; unfold inR; omega
    have i2 : inR p.depth := by have := hg.depth; unfold inR; omega
    have i3 : inR p.fuel := by have := hg.fuel; unfold inR; omega
    have z1 := str_len (S := decS p.futs) rfl (decB_len i1)
    have z2 := str_len (S := decS p.depth) rfl (decB_len i2)
    have z3 := str_len (S := decS p.fuel) rfl (decB_len i3)
    have HH : Hid (Value.string (⟨#[102, 117, 116, 117, 114, 101, 115, 32]⟩ ++ decS p.futs ++ ⟨#[10, 100, 101, 112, 116, 104, 32]⟩ ++ decS p.depth ++ ⟨#[10, 102, 117, 101, 108, 32]⟩ ++ decS p.fuel ++ ⟨#[10]⟩) = .string (strB (RT p 0))) := hd3_str rfl rfl rfl
    generalize C2.strB (putT p) = SP
    have HB2 : Hid (BoxedP w1 w.heap.size fa fc p) := hB2
    have HN : Hid (Below w.heap.size w w1) := hb2
    have HG : Hid (C2.Good p) := hg
    clear hB2 hb2 hg hn hm d0
    go_wp2_with fail
    go_quiet ((go_at_call 37; exact Calls.quiet_of (rdecS _ (by assumption) _)))
    clear i1 i2 i3 z1 z2 z3 d1 d2 d3 hgb
    go_wp2_with fail
    rw [HH.out]
    clear HH
    have hbq : Below w1.heap.size w1 (w1.drewN nq) := C2.below_drewN (Below.refl _ _) nq
    refine (names_any _).mono ?_
    rintro e w2 ⟨rfl, hb2'⟩
    have hb12 := below_alloc (below_then hbq hb2') (.cells namesV 85)
    have hB3 := HB2.out.kept hb12
    have hb3 := below_then HN.out hb12
    have hx : (w2.alloc (.cells namesV 85)).heap[w2.heap.size]? = some (.cells namesV 85 (0, 0)) := heap_alloc_new _ _
    have HX : Hid ((w2.alloc (.cells namesV 85)).heap[w2.heap.size]? = some (.cells namesV 85 (0, 0))) := hx
    have HB3 : Hid (BoxedP (w2.alloc (.cells namesV 85)) w.heap.size fa fc p) := hB3
    have HN3 : Hid (Below w.heap.size w (w2.alloc (.cells namesV 85))) := hb3
    clear hbq hb2' hb12 hB3 hb3 hx HB2 HN
    rw [names_lit]
    go_wp2_with fail
    rw [← names_lit]
    generalize hW0 : w2.alloc (.cells namesV 85) = W0 at *
    generalize hG0 : w2.heap.size = G0 at *
    clear hW0 hG0
    go_loopw [5, 7] (fun sv iv wr => ∃ i : Nat, i ≤ p.fs.length ∧ iv = .int .i64 i ∧ sv = .string (strB (RT p i)) ∧ Below W0.heap.size W0 wr) (fun _ iv _ => p.fs.length - (intOf iv).toNat)
    case atStart => exact ⟨0, by omega, rfl, rfl, Below.refl _ _⟩
    case round =>
      obtain ⟨i, hi, rfl, rfl, hBl⟩ := hrel
      have hB5 := HB3.out.kept hBl
      obtain ⟨d0, -, -, -⟩ := hB5.cells
      have hl := RT_len p HG.out i hi
      have hnf := HG.out.few
      by_cases hlt : i < p.fs.length
      · obtain ⟨fa', fc', he, hfx⟩ := hB5.fns
        obtain ⟨rfl, rfl⟩ : fa' = fa ∧ fc' = fc := by simp at he; exact ⟨he.1.symm, he.2.symm⟩
        clear he
        obtain ⟨g, f, u, rfl, hc, xa, xc, rfl, hI⟩ := hfx i hlt
        have hsm := HG.out.small _ (List.getElem_mem hlt)
        have hsh := HG.out.shapes _ (List.getElem_mem hlt)
        have HQL : Hid (∀ k, (QT p i p.fs[i] k).length ≤ 50000) := QT_len p HG.out i hlt
        have HQD : Hid (QT p i p.fs[i] p.fs[i].length = RT p (i + 1)) := RT_step p i hlt
        clear hfx
        generalize hfi : p.fs[i] = fi at *
        clear hfi
        obtain ⟨S, hS⟩ : ∃ S, S = strB (RT p i) := ⟨_, rfl⟩
        have hz := str_len hS hl
        have HQ : Hid (Value.string (S ++ ⟨#[102, 117, 110, 99, 116, 105, 111, 110, 10]⟩) = .string (strB (QT p i fi 0))) := QT_first fi hS
        rw [← hS]
        clear hS hl hB5
        obtain ⟨W, rfl⟩ : ∃ W, W = wr := ⟨wr, rfl⟩
        go_wp2_with fail
        rw [HQ.out]
        clear HQ hz
        go_loopw [5, 8] (fun sv kv wr => ∃ k : Nat, k ≤ fi.length ∧ kv = .int .i64 k ∧ sv = .string (strB (QT p i fi k)) ∧ Below W.heap.size W wr) (fun _ kv _ => fi.length - (intOf kv).toNat)
        case atStart => exact ⟨0, by omega, rfl, rfl, Below.refl _ _⟩
        case round =>
          obtain ⟨k, hk, rfl, rfl, hBi⟩ := hrel
          have st := C2.still_of_below hBi
          have d0' := st _ _ d0
          have hc' := st _ _ hc
          by_cases hkl : k < fi.length
          · obtain ⟨g', f', rfl, hA⟩ := hI k hkl
            have hs : shapeI fi[k] = true := List.all_eq_true.1 hsh _ (List.getElem_mem hkl)
            have HF : Hid (∀ {S : ByteArray}, S = strB (UT (QT p i fi k) fi[k] (opsOf fi[k].o.toNat).toNat) → Value.string (S ++ ⟨#[10]⟩) = .string (strB (QT p i fi (k + 1)))) := fun {S} hS => UT_fin hkl hS
            have hq := HQL.out k
            obtain ⟨y0, y1, y2, y3⟩ := hA.still st
            clear hA
            generalize hxk : fi[k] = x at *
            clear hxk
            have hsp := shp hs
            have hox := hsp.eq
            have ho1 := hsp.lo
            have ho2 := hsp.hi
            have HUL : Hid (∀ j, (UT (QT p i fi k) x j).length ≤ (QT p i fi k).length + 60) := UT_len _ x hs
            have HUS : Hid (∀ j, inR (abc x j)) := abc_in hs
            generalize hqq : QT p i fi k = q at *
            clear hqq
            obtain ⟨S, hS⟩ : ∃ S, S = strB q := ⟨_, rfl⟩
            have hz := str_len hS hq
            have HU := UT_first (x := x) hS (D := strB (wordOf x.o.toNat)) rfl
            rw [← hS]
            clear hS
            generalize hto : x.o.toNat = o at *
            rw [hox] at y0
            have HXL : Hid (x.o.toNat = o) := hto
            have hwl := word_len o (by omega)
            have hn : wr.cell? ⟨G0, o, none⟩ = some (.string (strB (wordOf o))) := by
              have hbb := below_then hBl hBi
              have h1 : wr.heap[G0]? = some (.cells namesV 85 (0, 0)) := (hbb.block _ (lt_of_block HX.out)).trans HX.out
              rw [cell_of_row wr G0 o _ _ _ h1]
              exact names_at o (by omega)
            have hng := block_lt_of_cell hn
            have hz2 : (strB (wordOf o)).size ≤ 8 := by rw [strB_size]; exact hwl
            obtain ⟨SW, hSW⟩ : ∃ S, strB (wordOf o) = S := ⟨_, rfl⟩
            rw [hSW] at hn hz2 HU
            have HU2 : Hid (Value.string (S ++ ⟨#[32, 32]⟩ ++ SW) = .string (strB (UT q x 0))) := HU
            clear hSW HU hsp hs hox hto hwl
            have hW2 := below_alloc (below_alloc hBi (.cells #[.int .i64 (o : Int), .int .i64 x.a, .int .i64 x.b, .int .i64 x.c] 50)) (.cells #[.int .i64 x.a, .int .i64 x.b, .int .i64 x.c] 87)
            have HW2 : Hid (Below W.heap.size W ((wr.alloc (.cells #[.int .i64 (o : Int), .int .i64 x.a, .int .i64 x.b, .int .i64 x.c] 50)).alloc (.cells #[.int .i64 x.a, .int .i64 x.b, .int .i64 x.c] 87))) := hW2
            have hc1 : ((wr.alloc (.cells #[.int .i64 (o : Int), .int .i64 x.a, .int .i64 x.b, .int .i64 x.c] 50)).alloc (.cells #[.int .i64 x.a, .int .i64 x.b, .int .i64 x.c] 87)).heap[wr.heap.size]? = some (.cells #[.int .i64 (o : Int), .int .i64 x.a, .int .i64 x.b, .int .i64 x.c] 50 (0, 0)) := (Below.heap_alloc _ _ _ (by simp)).trans (heap_alloc_new _ _)
            have hc2 : ((wr.alloc (.cells #[.int .i64 (o : Int), .int .i64 x.a, .int .i64 x.b, .int .i64 x.c] 50)).alloc (.cells #[.int .i64 x.a, .int .i64 x.b, .int .i64 x.c] 87)).heap[wr.heap.size + 1]? = some (.cells #[.int .i64 x.a, .int .i64 x.b, .int .i64 x.c] 87 (0, 0)) := by have := heap_alloc_new (wr.alloc (.cells #[.int .i64 (o : Int), .int .i64 x.a, .int .i64 x.b, .int .i64 x.c] 50)) (.cells #[.int .i64 x.a, .int .i64 x.b, .int .i64 x.c] 87); simpa using this
            have HC1 : Hid (_ = _) := hc1
            have HC2 : Hid (_ = _) := hc2
            clear hW2 hc1 hc2 st hBi
            go_wp2_with fail
            rw [HU2.out]
            clear HU2 y0 y1 y2 y3 hz hz2 hn hng
            generalize hWW : (wr.alloc (.cells #[.int .i64 (o : Int), .int .i64 x.a, .int .i64 x.b, .int .i64 x.c] 50)).alloc (.cells #[.int .i64 x.a, .int .i64 x.b, .int .i64 x.c] 87) = W2 at *
            generalize hGG : wr.heap.size = G at *
            clear hWW hGG
            obtain ⟨n, hnn⟩ : ∃ n : Nat, opsOf o = (n : Int) := ⟨(opsOf o).toNat, by have := opsOf_bd o; omega⟩
            have hn3 : n ≤ 3 := by have := opsOf_bd o; omega
            have hmany := fun W => many_any o (by omega) (by omega) W
            simp only [hnn] at hmany
            have HF2 : Hid (∀ {S : ByteArray}, S = strB (UT q x n) → Value.string (S ++ ⟨#[10]⟩) = .string (strB (QT p i fi (k + 1)))) := fun {S} hS => HF.out (by rw [hnn]; simpa using hS)
            clear HF HXL hnn
            go_loopw [5, 11] (fun sv jv wr => ∃ j : Nat, j ≤ n ∧ jv = .int .i64 j ∧ sv = .string (strB (UT q x j)) ∧ Below W2.heap.size W2 wr) (fun _ jv _ => n - (intOf jv).toNat)
            case atStart => exact ⟨0, by omega, rfl, rfl, Below.refl _ _⟩
            case round =>
              obtain ⟨j, hj, rfl, rfl, hBj⟩ := hrel
              have h1 := (hBj.block _ (lt_of_block HC1.out)).trans HC1.out
              have e0 := cell_of_row _ _ 0 _ _ _ h1
              simp at e0
              have e0g := block_lt_of_cell e0
              have hlj := HUL.out j
              obtain ⟨S, hS⟩ : ∃ S, S = strB (UT q x j) := ⟨_, rfl⟩
              have hz := str_len hS (by omega : (UT q x j).length ≤ 50060)
              by_cases hjn : j < n
              · have hin := HUS.out j
                have h2 := (hBj.block _ (lt_of_block HC2.out)).trans HC2.out
                have ej0 : wr.cell? ⟨G + 1, j, none⟩ = some (.int .i64 (abc x j)) := by
                  rw [cell_of_row _ _ j _ _ _ h2]
                  rcases (by omega : j = 0 ∨ j = 1 ∨ j = 2) with rfl | rfl | rfl <;> rfl
                have hzd := str_len (S := decS (abc x j)) rfl (decB_len hin)
                by_cases hj0 : j = 0
                · subst hj0
                  have HE : Hid (Value.string (S ++ ⟨#[32]⟩ ++ decS (abc x 0)) = .string (strB (UT q x (0 + 1)))) := UT_one hS rfl
                  rw [← hS]
                  clear hS h1 h2
                  generalize abc x 0 = v at *
                  go_wp2_with fail
                  refine (hmany _).mono ?_
                  rintro e w5 ⟨rfl, hb5⟩
                  have ej := (C2.still_of_below hb5) _ _ ej0
                  have ejg := block_lt_of_cell ej
                  go_wp2_with fail
                  refine (rdecS v hin _).mono ?_
                  rintro e w6 ⟨rfl, hw6⟩
                  have hb6 := below_then hBj (below_then hb5 (drew_below hw6))
                  clear hw6 hb5 ej ejg ej0
                  go_wp2_with fail
                  go_roundw
                  case rel => exact ⟨0 + 1, by omega, by go_num, HE.out, hb6⟩
                  case measure => simp [intOf]; omega
                · have HE : Hid (Value.string (S ++ ⟨#[44]⟩ ++ ⟨#[32]⟩ ++ decS (abc x j)) = .string (strB (UT q x (j + 1)))) := UT_more (by omega) (by omega) hS rfl
                  rw [← hS]
                  clear hS h1 h2
                  generalize abc x j = v at *
                  go_wp2_with fail
                  refine (hmany _).mono ?_
                  rintro e w5 ⟨rfl, hb5⟩
                  have ej := (C2.still_of_below hb5) _ _ ej0
                  have ejg := block_lt_of_cell ej
                  have hjp : (0 : Int) < (j : Int) := by omega
                  go_wp2_with fail
                  refine (rdecS v hin _).mono ?_
                  rintro e w6 ⟨rfl, hw6⟩
                  have hb6 := below_then hBj (below_then hb5 (drew_below hw6))
                  clear hw6 hb5 ej ejg ej0
                  go_wp2_with fail
                  go_roundw
                  case rel => exact ⟨j + 1, by omega, by go_num, HE.out, hb6⟩
                  case measure => simp [intOf]; omega
              · obtain rfl : j = n := by omega
                have HE : Hid (Value.string (S ++ ⟨#[10]⟩) = .string (strB (QT p i fi (k + 1)))) := HF2.out hS
                rw [← hS]
                clear hS h1
                go_wp2_with fail
                refine (hmany _).mono ?_
                rintro e w5 ⟨rfl, hb5⟩
                have hd : decide ((j : Int) < (j : Int)) = false := by simp
                have hb6 := below_then HW2.out (below_then hBj hb5)
                clear hb5
                go_wp2_with fail
                go_roundw
                case rel => exact ⟨k + 1, by omega, by go_num, HE.out, hb6⟩
                case measure => simp [intOf]; omega
          · obtain rfl : k = fi.length := by omega
            rw [HQD.out]
            go_wp2_with fail
            go_roundw
            case rel => exact ⟨i + 1, by omega, by go_num, rfl, below_then hBl hBi⟩
            case measure => simp [intOf]; omega
      · obtain rfl : i = p.fs.length := by omega
        rw [RT_done]
        go_wp2_with fail
        go_ret
        exact ⟨by rw [HTX.out]; rfl, below_then HN3.out hBl⟩
  · have e1 : (putE p != 0) = true := by simpa using hp
    have HTX : Hid (txtF p = []) := show txtF p = [] by unfold txtF; rw [if_neg hp]
    generalize putE p = q at *
    generalize C2.strB (putT p) = SP
    go_wp2_with fail
    go_ret
    exact ⟨by rw [HTX.out]; rfl, hb2⟩
end Go.Proofs.YtdpagipbaddnfaaDoor
