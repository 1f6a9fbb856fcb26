/-
  Helpers: C2Put3, C2Awake, C2Nums, C2Ins.
-/
import Derived.Test.YtpmapdialjdcbaaDoorBunbc6cdf134fce
import Derived.Lib.SlBytesConst
namespace Go.Proofs.YtpmapdialjdcbaaDoor.C2
open Go.RowKit

set_option maxHeartbeats 400000 in
/-- behind a row that is full: it grows -/
theorem put_full (base g n : Nat) (xs : List UInt8) (v : Int) (w : World) (hx : xs.length = n) (hc : ∀ j u, (cellsU xs)[j]? = some u → w.cell? ⟨g, j, none⟩ = some u) (hb : base ≤ w.heap.size) (hn : n ≤ 1000) :
    Calls Tryd.prog 40 #[.slice (some ⟨g, 0, none⟩) n n, .int .i64 v, .int .i64 1] w fun e w' => ∃ bv', e = .returned bv' ∧ w'.ownsRow base 5 1 bv' (xs ++ be 1 v).length (cellsU (xs ++ be 1 v)) ∧ Below w.heap.size w w' := by
  obtain ⟨i0, hi, hz0, hz1, hz2⟩ := info_parts infoU8
  go_enter Tryd.func40, Tryd.ntmps40
  go_wp2
  go_loopw [0, 7] (fun b i wr => (i = .int .i64 0 ∧ b = .slice (some ⟨g, 0, none⟩) n n ∧ wr = w) ∨ (i = .int .i64 (-1) ∧ wr.ownsRow base 5 1 b (xs ++ be 1 v).length (cellsU (xs ++ be 1 v)) ∧ Below w.heap.size w wr))
    (fun _ i _ => (intOf i + 1).toNat)
  case atStart => exact .inl ⟨rfl, rfl, rfl⟩
  case round =>
    rcases hrel with ⟨rfl, rfl, rfl⟩ | ⟨rfl, hown, hB⟩
    · go_wp2_with (at_builtin; refine wpList_append_grows _ rfl _ _ 93 rfl 5 i0 (.int .u8 0) 1 1 Tryd.underlying93 hi hz0 hz1 hz2 rfl (by decide) (some ⟨g, 0, none⟩) n n (cellsU xs) rfl (fun h => by cases h) (by simp [cellsU, hx]) ?olds ⟨wr.heap.size, 0, none⟩ 1 1 [.int .u8 (v % 256)] rfl rfl ?c1 ?c2 (by omega) (by unfold maxLen; omega) (by omega) ?grow)
      case olds =>
        intro b hb' j u hu
        cases hb'
        have hj := hc j u hu
        have hlt := block_lt_of_cell hj
        have e : (⟨g, 0, none⟩ : Addr).add j = ⟨g, j, none⟩ := by unfold Addr.add; split <;> simp_all
        rw [e, World.cell?_alloc_past _ _ _ hlt]
        exact hj
      case c1 => exact one_new _ _ _
      case c2 => intro u hu; simp at hu; subst hu; rfl
      case grow =>
        intro v' w1 hown' hgrow
        have e8 : cellU (byteN v 0) = .int .u8 (v % 256) := by simpa using cellU_byteN v 0
        rw [← e8] at hown'
        have hB : Below wr.heap.size wr w1 := ((Below.refl _ _).alloc (Nat.le_refl _) _).grown hgrow (by simp) (fun k h => by cases h)
        clear hgrow
        go_wp2
        go_roundw
        case rel =>
          refine .inr ⟨rfl, ?_, hB⟩
          have := owns_mono hown' (base' := base) (by first | omega | (simp; omega))
          simpa [cellsU, be, hx] using this
        case measure => simp [intOf]
    · go_wp2
      go_ret
      exact ⟨_, rfl, hown, hB⟩

def insBI (i : In) : List UInt8 := insB i.o i.a i.b i.c
def codeB (f : List In) : List UInt8 := (f.map insBI).flatten
def funB (f : List In) : List UInt8 := be 1 f.length ++ codeB f
def funsB (fs : List (List In)) : List UInt8 := (fs.map funB).flatten
def headB (p : Pr) : List UInt8 := [77, 71, 80] ++ be 1 p.futs ++ be 1 p.depth ++ be 2 p.fuel ++ be 1 p.fs.length
def putB (p : Pr) : List UInt8 := headB p ++ funsB p.fs
def putE (p : Pr) : Int := if bigB p.fs = true then 2 else if soundB p = true then 0 else 1
def putT (p : Pr) : List UInt8 := if bigB p.fs = true then [] else if soundB p = true then putB p else []
theorem ret_tup {a b : ByteArray} {x y : Int} (h : a = b) (h2 : x = y) : Ending.returned (.tuple #[.string a, .int .i64 x]) = .returned (.tuple #[.string b, .int .i64 y]) := by rw [h, h2]
theorem codeB_length (f : List In) : (codeB f).length ≤ 13 * f.length := by
  induction f with
  | nil => simp [codeB]
  | cons i f ih =>
    have h : (insBI i).length ≤ 13 := insB_length _ _ _ _
    simp only [codeB, List.map_cons, List.flatten_cons, List.length_append, List.length_cons] at ih ⊢
    omega
theorem funsB_length (fs : List (List In)) (h : ∀ f ∈ fs, f.length ≤ 40) : (funsB fs).length ≤ 521 * fs.length := by
  induction fs with
  | nil => simp [funsB]
  | cons f fs ih =>
    have h1 := codeB_length f
    have h2 := h f (by simp)
    have h3 := ih fun x hx => h x (by simp [hx])
    simp only [funsB, List.map_cons, List.flatten_cons, List.length_append, List.length_cons, funB, be_length] at h3 ⊢
    omega
theorem not_big {fs : List (List In)} (h : bigB fs = false) : fs.length ≤ 12 ∧ ∀ f ∈ fs, f.length ≤ 40 := by
  simp only [bigB, Bool.or_eq_false_iff, decide_eq_false_iff_not, List.any_eq_false, decide_eq_true_eq] at h
  exact ⟨by omega, fun f hf => by have := h.2 f hf; omega⟩
theorem codeB_snoc {f : List In} {j : Nat} (h : j < f.length) : codeB (f.take (j + 1)) = codeB (f.take j) ++ insB f[j].o f[j].a f[j].b f[j].c := by
  rw [List.take_succ_eq_append_getElem h, codeB, codeB, List.map_append, List.flatten_append]
  simp [insBI]
theorem funsB_snoc {fs : List (List In)} {k : Nat} (h : k < fs.length) : funsB (fs.take (k + 1)) = funsB (fs.take k) ++ funB fs[k] := by
  rw [List.take_succ_eq_append_getElem h, funsB, funsB, List.map_append, List.flatten_append]
  simp
theorem mgp_cells (w : World) : ∀ j u, (cellsU [77, 71, 80])[j]? = some u → (w.alloc (.cells #[.int .u8 77, .int .u8 71, .int .u8 80] 5 (3, 4))).cell? ⟨w.heap.size, j, none⟩ = some u := by
  intro j u hu
  rw [World.cell?_alloc_mark, ← hu]
  have e : cellsU [77, 71, 80] = [.int .u8 77, .int .u8 71, .int .u8 80] := rfl
  rw [e]
  simp
set_option maxHeartbeats 1000000 in
theorem Put_any (p : Pr) (fv : Value) (w : World) (hT : Tab w) (hF : SlF w fv p.fs) (hn : p.fs.length ≤ 1000000) (hm : ∀ f ∈ p.fs, f.length ≤ 1000000) :
    Calls Tryd.prog 29 #[.agg #[fv, .int .i64 p.futs, .int .i64 p.depth, .int .i64 p.fuel]] w fun e w' => e = .returned (.tuple #[.string (strB (putT p)), .int .i64 (putE p)]) ∧ Below w.heap.size w w' := by
  obtain ⟨W1, hW1⟩ : ∃ W1, w.alloc (.cells #[fv, .int .i64 p.futs, .int .i64 p.depth, .int .i64 p.fuel] 24) = W1 := ⟨_, rfl⟩
  have hb1 : Below w.heap.size w W1 := by rw [← hW1]; exact (Below.refl _ _).alloc (Nat.le_refl _) _
  have hF1 := hF.still (still_of_below hb1)
  have hT1 := hT.below hb1
  have hsz1 : W1.heap.size = w.heap.size + 1 := by rw [← hW1]; simp
  obtain ⟨d0, d1, d2, d3⟩ := box_prog w fv p.futs p.depth p.fuel (wr := W1) (by rw [hW1]; exact Below.refl _ _)
  cases hbig : bigB p.fs
  · cases hsnd : soundB p
    · have e1 : putT p = [] := by simp [putT, hbig, hsnd]
      have e2 : putE p = 1 := by simp [putE, hbig, hsnd]
      rw [e1, e2]
      clear e1 e2
      go_enter Tryd.func29, Tryd.ntmps29
      go_wp2_with fail
      refine (big_any p.fs _ _ _ _ _ hF1 hn hm).mono ?_
      rintro e w2 ⟨rfl, hw2⟩
      rw [hbig]
      have hb2 : Below W1.heap.size W1 w2 := by rw [hw2]; exact (Below.refl _ _).alloc (Nat.le_refl _) _
      have hF2 := hF1.still (still_of_below hb2)
      have hT2 := hT1.below hb2
      obtain ⟨c0, c1, c2, c3⟩ := box_prog w fv p.futs p.depth p.fuel (wr := w2) (by rw [hW1, ← hsz1]; exact hb2)
      clear hw2
      go_wp2_with fail
      refine (sound_any p _ _ hT2 hF2 hn hm).mono ?_
      rintro e w3 ⟨rfl, hb3⟩
      rw [hsnd]
      go_wp2_with fail
      go_ret2
      exact ⟨rfl, hb1.trans ((hb2.trans (hb3.mono hb2.size)).mono hb1.size)⟩
    · have e1 : putT p = putB p := by simp [putT, hbig, hsnd]
      have e2 : putE p = 0 := by simp [putE, hbig, hsnd]
      rw [e1, e2]
      clear e1 e2
      obtain ⟨hn12, hm40⟩ := not_big hbig
      have kc := fun (w : World) (C : Array Value) (n c : Nat) => Lib.run_convert_bytes_const (P := Tryd.prog) w 93 5 C n c Tryd.underlying93 Tryd.underlying5
      go_enter Tryd.func29, Tryd.ntmps29
      go_wp2_with fail
      refine (big_any p.fs _ _ _ _ _ hF1 hn hm).mono ?_
      rintro e w2 ⟨rfl, hw2⟩
      rw [hbig]
      have hb2 : Below W1.heap.size W1 w2 := by rw [hw2]; exact (Below.refl _ _).alloc (Nat.le_refl _) _
      have hF2 := hF1.still (still_of_below hb2)
      have hT2 := hT1.below hb2
      obtain ⟨c0, c1, c2, c3⟩ := box_prog w fv p.futs p.depth p.fuel (wr := w2) (by rw [hW1, ← hsz1]; exact hb2)
      clear hw2
      go_wp2_with fail
      refine (sound_any p _ _ hT2 hF2 hn hm).mono ?_
      rintro e w3 ⟨rfl, hb3'⟩
      rw [hsnd]
      have hb3 : Below W1.heap.size W1 w3 := hb2.trans (hb3'.mono hb2.size)
      clear hb3' hb2 hF2 hT2 c0 c1 c2 c3 d0 d1 d2 d3
      have hF3 := hF1.still (still_of_below hb3)
      have hz3 : w.heap.size < w3.heap.size := by have := hb3.size; omega
      obtain ⟨c0, c1, c2, c3⟩ := box_prog w fv p.futs p.depth p.fuel (wr := w3) (by rw [hW1, ← hsz1]; exact hb3)
      clear hF hF1 hT hT1
      go_wp2_with fail
      refine (put_full w3.heap.size _ 3 [77, 71, 80] _ _ rfl (mgp_cells w3) (by simp) (by omega)).mono ?_
      rintro e w4 ⟨bv4, rfl, ho4, hb4'⟩
      have hb4 : Below w3.heap.size w3 w4 := ((Below.refl _ _).alloc (Nat.le_refl _) _).trans (hb4'.mono (by simp))
      obtain ⟨-, -, e2, -⟩ := box_prog w fv p.futs p.depth p.fuel (wr := w4) (by rw [hW1, ← hsz1]; exact hb3.trans (hb4.mono hb3.size))
      clear hb4' kc
      go_wp2_with fail
      refine (put_any w3.heap.size _ _ _ _ _ (by omega) (by omega) ho4 hb4.size (by simp [be_length])).mono ?_
      rintro e w5 ⟨bv5, rfl, ho5, hk5⟩
      have hb5 : Below w3.heap.size w3 w5 := hb4.trans (hk5.below hb4.size)
      obtain ⟨-, -, -, e3⟩ := box_prog w fv p.futs p.depth p.fuel (wr := w5) (by rw [hW1, ← hsz1]; exact hb3.trans (hb5.mono hb3.size))
      clear hk5 ho4
      go_wp2_with fail
      refine (put_any w3.heap.size _ _ _ _ _ (by omega) (by omega) ho5 hb5.size (by simp [be_length])).mono ?_
      rintro e w6 ⟨bv6, rfl, ho6, hk6⟩
      have hb6 : Below w3.heap.size w3 w6 := hb5.trans (hk6.below hb5.size)
      obtain ⟨e4, -, -, -⟩ := box_prog w fv p.futs p.depth p.fuel (wr := w6) (by rw [hW1, ← hsz1]; exact hb3.trans (hb6.mono hb3.size))
      clear hk6 ho5 hb4 hb5
      have hF := hF3
      obtain ⟨ad, cap, rfl, -⟩ := hF3
      go_wp2_with fail
      refine (put_any w3.heap.size _ _ _ _ _ (by omega) (by omega) ho6 hb6.size (by simp [be_length])).mono ?_
      rintro e w7 ⟨bv7, rfl, ho7', hk7⟩
      have hb7 : Below w3.heap.size w3 w7 := hb6.trans (hk7.below hb6.size)
      obtain ⟨e5, -, -, -⟩ := box_prog w _ p.futs p.depth p.fuel (wr := w7) (by rw [hW1, ← hsz1]; exact hb3.trans (hb7.mono hb3.size))
      have ho7 : w7.ownsRow w3.heap.size 5 1 bv7 (headB p).length (cellsU (headB p)) := ho7'
      clear hk7 ho6 hb6 ho7'
      have hhd : (headB p).length = 8 := by simp [headB, be_length]
      have HH : Hid ((headB p).length = 8) := hhd
      clear hhd
      go_wp2_with fail
      go_loopw [4, 36] (fun bvv i wr => ∃ k : Nat, k ≤ p.fs.length ∧ i = .int .i64 k ∧ wr.ownsRow w3.heap.size 5 1 bvv (headB p ++ funsB (p.fs.take k)).length (cellsU (headB p ++ funsB (p.fs.take k))) ∧ Below w3.heap.size w3 wr) (fun _ i _ => p.fs.length - (intOf i).toNat)
      case atStart => exact ⟨0, by omega, rfl, by simpa [funsB] using ho7, hb7⟩
      case round =>
        obtain ⟨k, hk, rfl, ho, hB⟩ := hrel
        have hBs := hB.size
        have hyl : (headB p ++ funsB (p.fs.take k)).length ≤ 7000 := by
          have h1 := funsB_length (p.fs.take k) fun f hf => hm40 f (List.mem_of_mem_take hf)
          have h2 := HH.out
          rw [List.length_append, h2]
          have h3 : (p.fs.take k).length ≤ 12 := by rw [List.length_take]; omega
          omega
        by_cases hlt : k < p.fs.length
        · obtain ⟨ad1, cap1, he, hx⟩ := hF
          obtain ⟨rfl, rfl⟩ : ad1 = ad ∧ cap1 = cap := by simp at he; exact ⟨he.1.symm, he.2.symm⟩
          clear he
          obtain ⟨g, f, u, rfl, hc0, hI0⟩ := hx k hlt
          have hc := still_of_below hB _ _ hc0
          have hI := hI0
          obtain ⟨ad', cap', rfl, -⟩ := hI0
          have hm' := hm40 _ (List.getElem_mem hlt)
          clear hx
          obtain ⟨W, rfl⟩ : ∃ W, W = wr := ⟨wr, rfl⟩
          generalize hys : headB p ++ funsB (p.fs.take k) = ys at *
          have HY : Hid (headB p ++ funsB (p.fs.take k) = ys) := hys
          clear hys
          go_wp2_with fail
          refine (put_any w3.heap.size _ _ _ _ _ (by omega) (by omega) ho hBs (by omega)).mono ?_
          rintro e w8 ⟨bv8, rfl, ho8, hk8⟩
          have hb8 : Below w3.heap.size w3 w8 := hB.trans (hk8.below hBs)
          clear hk8 ho hc hB
          go_wp2_with fail
          go_loopw [4, 46] (fun bvv i wr => ∃ j : Nat, j ≤ p.fs[k].length ∧ i = .int .i64 j ∧ wr.ownsRow w3.heap.size 5 1 bvv (ys ++ be 1 p.fs[k].length ++ codeB (p.fs[k].take j)).length (cellsU (ys ++ be 1 p.fs[k].length ++ codeB (p.fs[k].take j))) ∧ Below w3.heap.size w3 wr) (fun _ i _ => p.fs[k].length - (intOf i).toNat)
          case atStart => exact ⟨0, by omega, rfl, by simpa [codeB] using ho8, hb8⟩
          case round =>
            obtain ⟨j, hj, rfl, ho, hB⟩ := hrel
            have hBs := hB.size
            by_cases hjl : j < p.fs[k].length
            · obtain ⟨ad2, cap2, he, hx⟩ := hI
              obtain ⟨rfl, rfl⟩ : ad2 = ad' ∧ cap2 = cap' := by simp at he; exact ⟨he.1.symm, he.2.symm⟩
              clear he
              obtain ⟨g', f', rfl, hA⟩ := hx j hjl
              obtain ⟨c0, c1, c2, c3⟩ := hA.still (still_of_below hB)
              have hgl : g' < wr.heap.size := block_lt_of_cell c0
              have hzl : (ys ++ be 1 p.fs[k].length ++ codeB (p.fs[k].take j)).length ≤ 8000 := by
                have h1 := codeB_length (p.fs[k].take j)
                have h2 : (p.fs[k].take j).length ≤ 40 := by rw [List.length_take]; omega
                simp only [List.length_append, be_length]
                omega
              generalize hzs : ys ++ be 1 p.fs[k].length ++ codeB (p.fs[k].take j) = zs at *
              have HZ : Hid (ys ++ be 1 p.fs[k].length ++ codeB (p.fs[k].take j) = zs) := hzs
              clear hzs hx
              go_wp2_with fail
              refine (putIns_any w3.heap.size _ zs _ _ _ _ _ (ho.alloc _) (by simp; omega) (by omega)).mono ?_
              rintro e w9 ⟨bv9, rfl, ho9, hk9⟩
              have hb9 : Below w3.heap.size w3 w9 := (hB.alloc hBs _).trans (hk9.below (by simp; omega))
              clear hk9 ho hB c0 c1 c2 c3
              go_wp2_with fail
              go_roundw
              case rel => exact ⟨j + 1, by omega, by go_num, by rw [codeB_snoc hjl, ← List.append_assoc, HZ.out]; exact ho9, hb9⟩
              case measure => simp [intOf]; omega
            · have hjj : j = p.fs[k].length := by omega
              rw [hjj, List.take_length] at ho
              have ho' : wr.ownsRow w3.heap.size 5 1 u4 (headB p ++ funsB (p.fs.take (k + 1))).length (cellsU (headB p ++ funsB (p.fs.take (k + 1)))) := by
                rw [funsB_snoc hlt, ← List.append_assoc, HY.out, funB, ← List.append_assoc]
                exact ho
              clear ho hjj
              go_wp2_with fail
              go_roundw
              case rel => exact ⟨k + 1, by omega, by go_num, ho', hB⟩
              case measure => simp [intOf]; omega
        · have hkk : k = p.fs.length := by omega
          rw [hkk, List.take_length] at ho
          have hcv := run_row_string (P := Tryd.prog) (s := 93) (d := 9) ho Tryd.underlying93 Tryd.underlying5 Tryd.underlying9
          clear hkk
          go_wp2_with fail
          go_ret2
          exact ⟨rfl, hb1.trans ((hb3.trans (hB.mono hb3.size)).mono hb1.size)⟩
  · have e1 : putT p = [] := by simp [putT, hbig]
    have e2 : putE p = 2 := by simp [putE, hbig]
    rw [e1, e2]
    clear e1 e2
    go_enter Tryd.func29, Tryd.ntmps29
    go_wp2_with (go_at_call 38; refine (big_any p.fs _ _ _ _ _ hF1 hn hm).mono ?_; rintro e w' ⟨rfl, rfl⟩)
    go_ret2
    exact ⟨rfl, hb1.trans (((Below.refl _ _).alloc (Nat.le_refl _) _).mono hb1.size)⟩
end Go.Proofs.YtpmapdialjdcbaaDoor.C2
namespace Go.Proofs.YtpmapdialjdcbaaDoor.C2
open Go.RowKit

theorem slf_nil (w : World) : SlF w (.slice none 0 0) [] := ⟨none, 0, rfl, fun k h => by simp at h⟩
def p1 : Pr := ⟨[], 0, 0, 1⟩
theorem p1_text : putT p1 = [77, 71, 80, 0, 0, 0, 1, 0] := by decide +kernel
theorem p1_code : putE p1 = 0 := by decide +kernel
theorem ret7 : shapeB 15 7 0 0 = true := by decide +kernel
/-- any number as one from 0 to n - 1 -/
def placeI (v n : Int) : Int := v % n
theorem placeI_bd (v n : Int) (h : 0 < n) : 0 ≤ placeI v n ∧ placeI v n < n := ⟨Int.emod_nonneg _ (by omega), Int.emod_lt_of_pos _ h⟩
theorem ret_i64 {a b : Int} (h : a = b) : Ending.returned (.int .i64 a) = .returned (.int .i64 b) := by rw [h]
theorem tmod_bd {v n : Int} (h1 : 0 < n) : -n < v.tmod n ∧ v.tmod n < n := by
  have h := Int.natAbs_tmod v n
  have h2 : v.natAbs % n.natAbs < n.natAbs := Nat.mod_lt _ (by omega)
  omega
theorem place_neg {v n : Int} (h1 : 0 < n) (h : v.tmod n < 0) : v.tmod n + n = placeI v n := by
  unfold placeI
  have e := Int.tmod_add_mul_tdiv v n
  have b := tmod_bd (v := v) h1
  rw [← Int.emod_emod_of_dvd v (Int.dvd_refl n)]
  have : v % n = (v.tmod n + n) % n := by
    rw [Int.add_emod_right]
    conv => lhs; rw [← e]
    rw [Int.add_mul_emod_self_left]
  rw [this, Int.emod_emod_of_dvd _ (Int.dvd_refl n), Int.emod_eq_of_lt (by omega) (by omega)]
theorem place_pos {v n : Int} (h1 : 0 < n) (h : ¬ v.tmod n < 0) : v.tmod n = placeI v n := by
  unfold placeI
  have e := Int.tmod_add_mul_tdiv v n
  have b := tmod_bd (v := v) h1
  have : v % n = v.tmod n % n := by
    conv => lhs; rw [← e]
    rw [Int.add_mul_emod_self_left]
  rw [this, Int.emod_eq_of_lt (by omega) (by omega)]
theorem place_any (v n : Int) (w : World) (h1 : 0 < n) (h2 : n ≤ 2147483648) : Calls Tryd.prog 11 #[.int .i64 v, .int .i64 n] w fun e w' => e = .returned (.int .i64 (placeI v n)) ∧ w' = w := by
  have hn : ¬ n = 0 := by omega
  have hn2 : (n == 0) = false := by simp [hn]
  have hb := tmod_bd (v := v) h1
  have hw : wrap64 (v.tmod n) = v.tmod n := by unfold wrap64; omega
  by_cases h : v.tmod n < 0
  · have hd : decide (v.tmod n < 0) = true := by simpa using h
    go_enter Tryd.func11, Tryd.ntmps11
    go_wp2
    go_ret
    exact ⟨ret_i64 (place_neg h1 h), rfl⟩
  · have hd : decide (v.tmod n < 0) = false := by simpa using h
    go_enter Tryd.func11, Tryd.ntmps11
    go_wp2
    go_ret
    exact ⟨ret_i64 (place_pos h1 (by omega)), rfl⟩
end Go.Proofs.YtpmapdialjdcbaaDoor.C2
namespace Go.Proofs.YtpmapdialjdcbaaDoor.C2
open Go.RowKit

/-- an L whose numbers lie below block B -/
structure LAt (B : Nat) (w : World) (ad : Option Addr) (len : Nat) : Prop where
  cells : ∀ k, k < len → ∃ b o z, ad = some ⟨b, o, none⟩ ∧ b < B ∧ w.cell? ⟨b, o + k, none⟩ = some (.int .i64 z)
def LN (B : Nat) (w : World) (g : Nat) : Prop := ∃ ad len cap, w.heap[g]? = some (.cells #[.slice ad len cap] 71 (0, 0)) ∧ len ≤ cap ∧ cap ≤ 9223372036854775807 ∧ LAt B w ad len
theorem LAt.kept {B : Nat} {w w' : World} {ad : Option Addr} {len : Nat} (h : LAt B w ad len) (hb : Below B w w') : LAt B w' ad len := ⟨fun k hk => by
  obtain ⟨b, o, z, h1, h2, h3⟩ := h.cells k hk
  exact ⟨b, o, z, h1, h2, (hb.cell (p := ⟨b, o + k, none⟩) h2).trans h3⟩⟩
theorem set_grown (w : World) (g : Nat) (u : Value) : w.grownBy (w.setCell ⟨g, 0, none⟩ u) (some g) := ⟨rfl, rfl, rfl, by simp [World.setCell], fun k _ hne => Below.heap_setCell _ _ _ _ (fun e => hne (by rw [e]))⟩
theorem LN.set {B : Nat} {w : World} {g : Nat} {v0 : Value} {ad : Option Addr} {len cap : Nat} (hg : w.heap[g]? = some (.cells #[v0] 71 (0, 0))) (hB : B ≤ g) (h1 : len ≤ cap) (h2 : cap ≤ 9223372036854775807) (h : LAt B w ad len) : LN B (w.setCell ⟨g, 0, none⟩ (.slice ad len cap)) g :=
  ⟨ad, len, cap, one_setCell hg, h1, h2, h.kept ((Below.refl _ _).setCell hB _)⟩
theorem LN.kept {B : Nat} {w w' : World} {g : Nat} (h : LN B w g) (hb : Below B w w') (hg : w'.heap[g]? = w.heap[g]?) : LN B w' g := by
  obtain ⟨ad, len, cap, h1, h2, h3, h4⟩ := h
  exact ⟨ad, len, cap, hg.trans h1, h2, h3, h4.kept hb⟩
theorem LN.lt {B : Nat} {w : World} {g : Nat} (h : LN B w g) : g < w.heap.size := by
  obtain ⟨ad, len, cap, h1, -⟩ := h
  exact lt_of_block h1
set_option maxHeartbeats 400000 in
theorem next_any (B g : Nat) (m : Int) (w : World) (hL : LN B w g) (hB : B ≤ g) (h1 : 0 < m) (h2 : m ≤ 2147483648) :
    Calls Tryd.prog 27 #[.pointer (some ⟨g, 0, none⟩), .int .i64 m] w fun e w' => ∃ v, e = .returned (.int .i64 v) ∧ 0 ≤ v ∧ v < m ∧ w.grownBy w' (some g) ∧ LN B w' g := by
  obtain ⟨ad, len, cap, hg, hlc, hcm, hA⟩ := hL
  have c0 := cell_of_row w g 0 _ _ _ hg
  have f0 := frozen_of_row w g 0 _ _ hg
  simp at c0
  rcases Nat.eq_zero_or_pos len with rfl | hpos
  · have hz : (((0 : Nat) : Int) == 0) = true := by simp
    go_enter Tryd.func27, Tryd.ntmps27
    go_wp2
    go_ret
    exact ⟨0, rfl, by omega, by omega, World.grownBy.refl _ _, _, _, _, hg, hlc, hcm, hA⟩
  · have hz : ((len : Int) == 0) = false := by simp; omega
    obtain ⟨b, o, z, rfl, hbB, hc⟩ := hA.cells 0 hpos
    simp at hc
    have hpb := placeI_bd z m h1
    go_enter Tryd.func27, Tryd.ntmps27
    go_wp2_with (go_at_call 11; refine (place_any _ _ _ h1 h2).mono ?_; rintro e w' ⟨rfl, rfl⟩)
    all_goals go_ret
    · exact ⟨_, rfl, hpb.1, hpb.2, set_grown _ _ _, LN.set hg hB (by omega) (by omega) ⟨fun k hk => by omega⟩⟩
    · refine ⟨_, rfl, hpb.1, hpb.2, set_grown _ _ _, LN.set hg hB (by omega) (by omega) ⟨fun k hk => ?_⟩⟩
      obtain ⟨b', o', z', h1, h2, h3⟩ := hA.cells (k + 1) (by omega)
      simp only [Option.some.injEq, Addr.mk.injEq, and_true] at h1
      obtain ⟨rfl, rfl⟩ := h1
      exact ⟨b, o + 1, z', rfl, h2, by rw [Nat.add_assoc, Nat.add_comm 1 k]; exact h3⟩
end Go.Proofs.YtpmapdialjdcbaaDoor.C2
namespace Go.Proofs.YtpmapdialjdcbaaDoor.C2
open Go.RowKit

/-- what instructions by numbers are, of a program with so many functions and futures, in a function of n -/
def okIns (funcs futs n : Int) (x : In) : Prop :=
  (x.o = 1 ∧ 0 ≤ x.a ∧ x.a ≤ 3 ∧ -2 ≤ x.b ∧ x.b ≤ 4 ∧ x.c = 0) ∨
  (2 ≤ x.o ∧ x.o ≤ 6 ∧ 0 ≤ x.a ∧ x.a ≤ 3 ∧ 0 ≤ x.b ∧ x.b ≤ 3 ∧ 0 ≤ x.c ∧ x.c ≤ 3) ∨
  (x.o = 7 ∧ 0 ≤ x.a ∧ x.a < n ∧ x.b = 0 ∧ x.c = 0) ∨
  (x.o = 8 ∧ 0 ≤ x.a ∧ x.a ≤ 3 ∧ 0 ≤ x.b ∧ x.b < n ∧ x.c = 0) ∨
  (x.o = 9 ∧ 0 ≤ x.a ∧ x.a ≤ 3 ∧ 0 ≤ x.b ∧ x.b < funcs ∧ 0 ≤ x.c ∧ x.c ≤ 3) ∨
  (x.o = 10 ∧ 0 ≤ x.a ∧ x.a ≤ 3 ∧ 0 ≤ x.b ∧ x.b ≤ 3 ∧ x.c = 0) ∨
  (x.o = 11 ∧ 0 ≤ x.a ∧ x.a < futs ∧ 0 ≤ x.b ∧ x.b ≤ 3 ∧ x.c = 0) ∨
  (x.o = 12 ∧ 0 ≤ x.a ∧ x.a ≤ 3 ∧ 0 ≤ x.b ∧ x.b < futs ∧ x.c = 0) ∨
  (x.o = 13 ∧ 0 ≤ x.a ∧ x.a ≤ 3 ∧ x.b = 0 ∧ x.c = 0) ∨
  (x.o = 14 ∧ x.a = 0 ∧ x.b = 0 ∧ x.c = 0) ∨
  (x.o = 15 ∧ 0 ≤ x.a ∧ x.a ≤ 3 ∧ x.b = 0 ∧ x.c = 0)
theorem grown_setCell {w w1 : World} {row : Option Nat} (h : w.grownBy w1 row) {p : Addr} (hp : w.heap.size ≤ p.block) (u : Value) : w.grownBy (w1.setCell p u) row :=
  ⟨h.os, h.tape, h.output, by have := h.size; simp [World.setCell]; omega, fun k hk hne => (Below.heap_setCell _ _ _ _ (by omega)).trans (h.block k hk hne)⟩
theorem LN.setCell {B : Nat} {w : World} {g : Nat} (h : LN B w g) {p : Addr} (hp : B ≤ p.block) (hne : g ≠ p.block) (u : Value) : LN B (w.setCell p u) g := h.kept ((Below.refl _ _).setCell hp _) (Below.heap_setCell _ _ _ _ hne)
theorem fin4 {B g : Nat} {w w1 : World} (hg : w.grownBy w1 (some g)) (hL : LN B w1 g) (hB : B ≤ w.heap.size) (hne : g ≠ w.heap.size) (a b c d : Value) : w.grownBy ((((w1.setCell ⟨w.heap.size, 0, none⟩ a).setCell ⟨w.heap.size, 1, none⟩ b).setCell ⟨w.heap.size, 2, none⟩ c).setCell ⟨w.heap.size, 3, none⟩ d) (some g) ∧ LN B ((((w1.setCell ⟨w.heap.size, 0, none⟩ a).setCell ⟨w.heap.size, 1, none⟩ b).setCell ⟨w.heap.size, 2, none⟩ c).setCell ⟨w.heap.size, 3, none⟩ d) g :=
  ⟨grown_setCell (grown_setCell (grown_setCell (grown_setCell hg (Nat.le_refl _) _) (Nat.le_refl _) _) (Nat.le_refl _) _) (Nat.le_refl _) _, (((hL.setCell (p := ⟨w.heap.size, 0, none⟩) hB hne _).setCell (p := ⟨w.heap.size, 1, none⟩) hB hne _).setCell (p := ⟨w.heap.size, 2, none⟩) hB hne _).setCell (p := ⟨w.heap.size, 3, none⟩) hB hne _⟩
theorem ok_const {F U n a b : Int} (ha : 0 ≤ a ∧ a ≤ 3) (hb : -2 ≤ b ∧ b ≤ 4) : okIns F U n ⟨1, a, b, 0⟩ := .inl ⟨rfl, ha.1, ha.2, hb.1, hb.2, rfl⟩
theorem ok_op {F U n o a b c : Int} (ho : 2 ≤ o ∧ o ≤ 6) (ha : 0 ≤ a ∧ a ≤ 3) (hb : 0 ≤ b ∧ b ≤ 3) (hc : 0 ≤ c ∧ c ≤ 3) : okIns F U n ⟨o, a, b, c⟩ := .inr (.inl ⟨ho.1, ho.2, ha.1, ha.2, hb.1, hb.2, hc.1, hc.2⟩)
theorem ok_jump {F U n a : Int} (ha : 0 ≤ a ∧ a < n) : okIns F U n ⟨7, a, 0, 0⟩ := .inr (.inr (.inl ⟨rfl, ha.1, ha.2, rfl, rfl⟩))
theorem ok_zero {F U n a b : Int} (ha : 0 ≤ a ∧ a ≤ 3) (hb : 0 ≤ b ∧ b < n) : okIns F U n ⟨8, a, b, 0⟩ := .inr (.inr (.inr (.inl ⟨rfl, ha.1, ha.2, hb.1, hb.2, rfl⟩)))
theorem ok_fork {F U n a b c : Int} (ha : 0 ≤ a ∧ a ≤ 3) (hb : 0 ≤ b ∧ b < F) (hc : 0 ≤ c ∧ c ≤ 3) : okIns F U n ⟨9, a, b, c⟩ := .inr (.inr (.inr (.inr (.inl ⟨rfl, ha.1, ha.2, hb.1, hb.2, hc.1, hc.2⟩))))
theorem ok_join {F U n a b : Int} (ha : 0 ≤ a ∧ a ≤ 3) (hb : 0 ≤ b ∧ b ≤ 3) : okIns F U n ⟨10, a, b, 0⟩ := .inr (.inr (.inr (.inr (.inr (.inl ⟨rfl, ha.1, ha.2, hb.1, hb.2, rfl⟩)))))
theorem ok_set {F U n a b : Int} (ha : 0 ≤ a ∧ a < U) (hb : 0 ≤ b ∧ b ≤ 3) : okIns F U n ⟨11, a, b, 0⟩ := .inr (.inr (.inr (.inr (.inr (.inr (.inl ⟨rfl, ha.1, ha.2, hb.1, hb.2, rfl⟩))))))
theorem ok_get {F U n a b : Int} (ha : 0 ≤ a ∧ a ≤ 3) (hb : 0 ≤ b ∧ b < U) : okIns F U n ⟨12, a, b, 0⟩ := .inr (.inr (.inr (.inr (.inr (.inr (.inr (.inl ⟨rfl, ha.1, ha.2, hb.1, hb.2, rfl⟩)))))))
theorem ok_cancel {F U n a : Int} (ha : 0 ≤ a ∧ a ≤ 3) : okIns F U n ⟨13, a, 0, 0⟩ := .inr (.inr (.inr (.inr (.inr (.inr (.inr (.inr (.inl ⟨rfl, ha.1, ha.2, rfl, rfl⟩))))))))
theorem ok_yield {F U n : Int} : okIns F U n ⟨14, 0, 0, 0⟩ := .inr (.inr (.inr (.inr (.inr (.inr (.inr (.inr (.inr (.inl ⟨rfl, rfl, rfl, rfl⟩)))))))))
theorem ok_ret {F U n a : Int} (ha : 0 ≤ a ∧ a ≤ 3) : okIns F U n ⟨15, a, 0, 0⟩ := .inr (.inr (.inr (.inr (.inr (.inr (.inr (.inr (.inr (.inr ⟨rfl, ha.1, ha.2, rfl, rfl⟩)))))))))
theorem emod_bd (q m : Int) (h : 0 < m) : 0 ≤ q % m ∧ q % m < m := ⟨Int.emod_nonneg _ (by omega), Int.emod_lt_of_pos _ h⟩
theorem q7_bd (q : Int) : -2 ≤ q % 7 - 2 ∧ q % 7 - 2 ≤ 4 := by omega
/-- behind the walk: the instruction, and how the world turned -/
def InsPost (B g : Nat) (w : World) (funcs futs n : Int) (e : Ending) (w' : World) : Prop :=
  ∃ x : In, e = .returned (.agg #[.int .i64 x.o, .int .i64 x.a, .int .i64 x.b, .int .i64 x.c]) ∧ okIns funcs futs n x ∧ x.o ≠ 13 ∧ w.grownBy w' (some g) ∧ LN B w' g
set_option maxHeartbeats 4000000 in
theorem ins_any (B g : Nat) (funcs futs at' n : Int) (w : World) (hL : LN B w g) (hB : B ≤ g) (hf : 1 ≤ funcs) (hf2 : funcs ≤ 100) (hu : 0 ≤ futs) (hu2 : futs ≤ 100) (ha : 0 ≤ at') (hn : at' + 1 < n) (hn2 : n ≤ 100) :
    Calls Tryd.prog 28 #[.pointer (some ⟨g, 0, none⟩), .int .i64 funcs, .int .i64 futs, .int .i64 at', .int .i64 n] w fun e w' => InsPost B g w funcs futs n e w' := by
  go_enter Tryd.func28, Tryd.ntmps28
  go_wp2_with fail
  refine (next_any B g _ _ (hL.kept ((Below.refl _ _).alloc (by have := hL.lt; omega) _) (heap_alloc_old _ _ hL.lt)) hB (by omega) (by omega)).mono ?_
  rintro e w1 ⟨v, rfl, hv0, hv1, hg1, hL1⟩
  have hgb : w1.heap[w.heap.size]? = some (.cells #[.int .i64 0, .int .i64 0, .int .i64 0, .int .i64 0] 54 (0, 0)) := (hg1.block _ (by simp) (by have := hL.lt; simp; omega)).trans (heap_alloc_new _ _)
  have hgr : w.grownBy w1 (some g) := ⟨hg1.os, hg1.tape, hg1.output, by have := hg1.size; simp at this; omega, fun k hk hne => (hg1.block k (by simp; omega) hne).trans (heap_alloc_old _ _ hk)⟩
  have hlw := hL.lt
  clear hg1 hL
  have hlg := hL1.lt
  have hgw : g ≠ w.heap.size := by omega
  have c0 := cell_of_row w1 w.heap.size 0 _ _ _ hgb
  have c1 := cell_of_row w1 w.heap.size 1 _ _ _ hgb
  have c2 := cell_of_row w1 w.heap.size 2 _ _ _ hgb
  have c3 := cell_of_row w1 w.heap.size 3 _ _ _ hgb
  simp at c0 c1 c2 c3
  have f0 := frozen_of_row w1 w.heap.size 0 _ _ hgb
  have f1 := frozen_of_row w1 w.heap.size 1 _ _ hgb
  have f2 := frozen_of_row w1 w.heap.size 2 _ _ hgb
  have f3 := frozen_of_row w1 w.heap.size 3 _ _ hgb
  have fin : ∀ a b c d : Value, w.grownBy ((((w1.setCell ⟨w.heap.size, 0, none⟩ a).setCell ⟨w.heap.size, 1, none⟩ b).setCell ⟨w.heap.size, 2, none⟩ c).setCell ⟨w.heap.size, 3, none⟩ d) (some g) ∧ LN B ((((w1.setCell ⟨w.heap.size, 0, none⟩ a).setCell ⟨w.heap.size, 1, none⟩ b).setCell ⟨w.heap.size, 2, none⟩ c).setCell ⟨w.heap.size, 3, none⟩ d) g := fun a b c d => fin4 hgr hL1 (by omega) hgw a b c d
  obtain ⟨q, hq⟩ : ∃ q, v / 2048 = q := ⟨_, rfl⟩
  have hq0 : 0 ≤ q := by omega
  have hq1 : q ≤ 8192 := by omega
  obtain ⟨r, hr⟩ : ∃ r, v / 32 % 4 = r := ⟨_, rfl⟩
  obtain ⟨s, hs⟩ : ∃ s, v / 128 % 4 = s := ⟨_, rfl⟩
  obtain ⟨t, ht⟩ : ∃ t, v / 512 % 4 = t := ⟨_, rfl⟩
  obtain ⟨k, hk⟩ : ∃ k, v % 32 = k := ⟨_, rfl⟩
  have hr2 : 0 ≤ r ∧ r ≤ 3 := by omega
  have hs2 : 0 ≤ s ∧ s ≤ 3 := by omega
  have ht2 : 0 ≤ t ∧ t ≤ 3 := by omega
  have hk2 : 0 ≤ k ∧ k ≤ 31 := by omega
  have FIN : Hid (∀ a b c d : Value, w.grownBy ((((w1.setCell ⟨w.heap.size, 0, none⟩ a).setCell ⟨w.heap.size, 1, none⟩ b).setCell ⟨w.heap.size, 2, none⟩ c).setCell ⟨w.heap.size, 3, none⟩ d) (some g) ∧ LN B ((((w1.setCell ⟨w.heap.size, 0, none⟩ a).setCell ⟨w.heap.size, 1, none⟩ b).setCell ⟨w.heap.size, 2, none⟩ c).setCell ⟨w.heap.size, 3, none⟩ d) g) := fin
  clear fin
  rcases (by omega : (k < 4) ∨ (k = 4) ∨ (k = 5) ∨ (k = 6) ∨ (k = 7) ∨ (k = 8) ∨ (k = 9) ∨ (10 ≤ k ∧ k < 12) ∨ (k = 12) ∨ (13 ≤ k ∧ k < 21) ∨ (21 ≤ k ∧ k < 26) ∨ (k = 26 ∧ 0 < futs) ∨ (27 ≤ k ∧ k < 29 ∧ 0 < futs) ∨ (k = 29) ∨ (k = 26 ∧ futs = 0) ∨ (27 ≤ k ∧ k < 29 ∧ futs = 0) ∨ (30 ≤ k)) with hc | hc | hc | hc | hc | hc | hc | hc | hc | hc | hc | hc | hc | hc | hc | hc | hc
  · go_wp2_with fail
    exact bodyPost_ret (v := .agg #[.int .i64 1, .int .i64 r, .int .i64 (q % 7 - 2), .int .i64 0]) (by simp [results, Tryd.results28, go_sem, c0, c1, c2, c3]) rfl ⟨⟨1, r, (q % 7 - 2), 0⟩, rfl, ok_const hr2 (q7_bd q), by simp, (FIN.out _ _ _ _).1, (FIN.out _ _ _ _).2⟩
  · subst hc
    have hx : ∀ wx : World, (Instr.index 92 (.agg #[.int .i64 2, .int .i64 3, .int .i64 4, .int .i64 5, .int .i64 6, .int .i64 2]) (.int .i64 0)).run Tryd.prog wx = .ok (.int .i64 2) wx := fun _ => by kernel_rfl
    go_wp2_with fail
    exact bodyPost_ret (v := .agg #[.int .i64 2, .int .i64 r, .int .i64 s, .int .i64 t]) (by simp [results, Tryd.results28, go_sem, c0, c1, c2, c3]) rfl ⟨⟨2, r, s, t⟩, rfl, ok_op (by decide) hr2 hs2 ht2, by simp, (FIN.out _ _ _ _).1, (FIN.out _ _ _ _).2⟩
  · subst hc
    have hx : ∀ wx : World, (Instr.index 92 (.agg #[.int .i64 2, .int .i64 3, .int .i64 4, .int .i64 5, .int .i64 6, .int .i64 2]) (.int .i64 1)).run Tryd.prog wx = .ok (.int .i64 3) wx := fun _ => by kernel_rfl
    go_wp2_with fail
    exact bodyPost_ret (v := .agg #[.int .i64 3, .int .i64 r, .int .i64 s, .int .i64 t]) (by simp [results, Tryd.results28, go_sem, c0, c1, c2, c3]) rfl ⟨⟨3, r, s, t⟩, rfl, ok_op (by decide) hr2 hs2 ht2, by simp, (FIN.out _ _ _ _).1, (FIN.out _ _ _ _).2⟩
  · subst hc
    have hx : ∀ wx : World, (Instr.index 92 (.agg #[.int .i64 2, .int .i64 3, .int .i64 4, .int .i64 5, .int .i64 6, .int .i64 2]) (.int .i64 2)).run Tryd.prog wx = .ok (.int .i64 4) wx := fun _ => by kernel_rfl
    go_wp2_with fail
    exact bodyPost_ret (v := .agg #[.int .i64 4, .int .i64 r, .int .i64 s, .int .i64 t]) (by simp [results, Tryd.results28, go_sem, c0, c1, c2, c3]) rfl ⟨⟨4, r, s, t⟩, rfl, ok_op (by decide) hr2 hs2 ht2, by simp, (FIN.out _ _ _ _).1, (FIN.out _ _ _ _).2⟩
  · subst hc
    have hx : ∀ wx : World, (Instr.index 92 (.agg #[.int .i64 2, .int .i64 3, .int .i64 4, .int .i64 5, .int .i64 6, .int .i64 2]) (.int .i64 3)).run Tryd.prog wx = .ok (.int .i64 5) wx := fun _ => by kernel_rfl
    go_wp2_with fail
    exact bodyPost_ret (v := .agg #[.int .i64 5, .int .i64 r, .int .i64 s, .int .i64 t]) (by simp [results, Tryd.results28, go_sem, c0, c1, c2, c3]) rfl ⟨⟨5, r, s, t⟩, rfl, ok_op (by decide) hr2 hs2 ht2, by simp, (FIN.out _ _ _ _).1, (FIN.out _ _ _ _).2⟩
  · subst hc
    have hx : ∀ wx : World, (Instr.index 92 (.agg #[.int .i64 2, .int .i64 3, .int .i64 4, .int .i64 5, .int .i64 6, .int .i64 2]) (.int .i64 4)).run Tryd.prog wx = .ok (.int .i64 6) wx := fun _ => by kernel_rfl
    go_wp2_with fail
    exact bodyPost_ret (v := .agg #[.int .i64 6, .int .i64 r, .int .i64 s, .int .i64 t]) (by simp [results, Tryd.results28, go_sem, c0, c1, c2, c3]) rfl ⟨⟨6, r, s, t⟩, rfl, ok_op (by decide) hr2 hs2 ht2, by simp, (FIN.out _ _ _ _).1, (FIN.out _ _ _ _).2⟩
  · subst hc
    have hx : ∀ wx : World, (Instr.index 92 (.agg #[.int .i64 2, .int .i64 3, .int .i64 4, .int .i64 5, .int .i64 6, .int .i64 2]) (.int .i64 5)).run Tryd.prog wx = .ok (.int .i64 2) wx := fun _ => by kernel_rfl
    go_wp2_with fail
    exact bodyPost_ret (v := .agg #[.int .i64 2, .int .i64 r, .int .i64 s, .int .i64 t]) (by simp [results, Tryd.results28, go_sem, c0, c1, c2, c3]) rfl ⟨⟨2, r, s, t⟩, rfl, ok_op (by decide) hr2 hs2 ht2, by simp, (FIN.out _ _ _ _).1, (FIN.out _ _ _ _).2⟩
  · go_wp2_with fail
    · exact bodyPost_ret (v := .agg #[.int .i64 8, .int .i64 r, .int .i64 (n - 1), .int .i64 0]) (by simp [results, Tryd.results28, go_sem, c0, c1, c2, c3]) rfl ⟨⟨8, r, (n - 1), 0⟩, rfl, ok_zero hr2 (by omega), by simp, (FIN.out _ _ _ _).1, (FIN.out _ _ _ _).2⟩
    · exact bodyPost_ret (v := .agg #[.int .i64 8, .int .i64 r, .int .i64 (at' + 1 + q % 4), .int .i64 0]) (by simp [results, Tryd.results28, go_sem, c0, c1, c2, c3]) rfl ⟨⟨8, r, (at' + 1 + q % 4), 0⟩, rfl, ok_zero hr2 (by omega), by simp, (FIN.out _ _ _ _).1, (FIN.out _ _ _ _).2⟩
  · subst hc
    go_wp2_with fail
    exact bodyPost_ret (v := .agg #[.int .i64 7, .int .i64 (q % n), .int .i64 0, .int .i64 0]) (by simp [results, Tryd.results28, go_sem, c0, c1, c2, c3]) rfl ⟨⟨7, (q % n), 0, 0⟩, rfl, ok_jump (emod_bd q n (by omega)), by simp, (FIN.out _ _ _ _).1, (FIN.out _ _ _ _).2⟩
  · have e12 : (k == 12) = false := by simp; omega
    go_wp2_with fail
    exact bodyPost_ret (v := .agg #[.int .i64 9, .int .i64 r, .int .i64 (q % funcs), .int .i64 s]) (by simp [results, Tryd.results28, go_sem, c0, c1, c2, c3]) rfl ⟨⟨9, r, (q % funcs), s⟩, rfl, ok_fork hr2 (emod_bd q funcs (by omega)) hs2, by simp, (FIN.out _ _ _ _).1, (FIN.out _ _ _ _).2⟩
  · have e12 : (k == 12) = false := by simp; omega
    go_wp2_with fail
    exact bodyPost_ret (v := .agg #[.int .i64 10, .int .i64 r, .int .i64 s, .int .i64 0]) (by simp [results, Tryd.results28, go_sem, c0, c1, c2, c3]) rfl ⟨⟨10, r, s, 0⟩, rfl, ok_join hr2 hs2, by simp, (FIN.out _ _ _ _).1, (FIN.out _ _ _ _).2⟩
  · have e12 : (k == 12) = false := by simp; omega
    have e26 : (k == 26) = true := by simp; omega
    go_wp2_with fail
    exact bodyPost_ret (v := .agg #[.int .i64 11, .int .i64 (q % futs), .int .i64 r, .int .i64 0]) (by simp [results, Tryd.results28, go_sem, c0, c1, c2, c3]) rfl ⟨⟨11, (q % futs), r, 0⟩, rfl, ok_set (emod_bd q futs (by omega)) hr2, by simp, (FIN.out _ _ _ _).1, (FIN.out _ _ _ _).2⟩
  · have e12 : (k == 12) = false := by simp; omega
    have e26 : (k == 26) = false := by simp; omega
    go_wp2_with fail
    exact bodyPost_ret (v := .agg #[.int .i64 12, .int .i64 r, .int .i64 (q % futs), .int .i64 0]) (by simp [results, Tryd.results28, go_sem, c0, c1, c2, c3]) rfl ⟨⟨12, r, (q % futs), 0⟩, rfl, ok_get hr2 (emod_bd q futs (by omega)), by simp, (FIN.out _ _ _ _).1, (FIN.out _ _ _ _).2⟩
  · have e12 : (k == 12) = false := by simp; omega
    have e26 : (k == 26) = false := by simp; omega
    have e29 : (k == 29) = true := by simp; omega
    go_wp2_with fail
    exact bodyPost_ret (v := .agg #[.int .i64 14, .int .i64 0, .int .i64 0, .int .i64 0]) (by simp [results, Tryd.results28, go_sem, c0, c1, c2, c3]) rfl ⟨⟨14, 0, 0, 0⟩, rfl, ok_yield, by simp, (FIN.out _ _ _ _).1, (FIN.out _ _ _ _).2⟩
  · have e12 : (k == 12) = false := by simp; omega
    have e26 : (k == 26) = true := by simp; omega
    have e29 : (k == 29) = false := by simp; omega
    go_wp2_with fail
    exact bodyPost_ret (v := .agg #[.int .i64 2, .int .i64 r, .int .i64 r, .int .i64 s]) (by simp [results, Tryd.results28, go_sem, c0, c1, c2, c3]) rfl ⟨⟨2, r, r, s⟩, rfl, ok_op (by decide) hr2 hr2 hs2, by simp, (FIN.out _ _ _ _).1, (FIN.out _ _ _ _).2⟩
  · have e12 : (k == 12) = false := by simp; omega
    have e26 : (k == 26) = false := by simp; omega
    have e29 : (k == 29) = false := by simp; omega
    go_wp2_with fail
    exact bodyPost_ret (v := .agg #[.int .i64 2, .int .i64 r, .int .i64 r, .int .i64 s]) (by simp [results, Tryd.results28, go_sem, c0, c1, c2, c3]) rfl ⟨⟨2, r, r, s⟩, rfl, ok_op (by decide) hr2 hr2 hs2, by simp, (FIN.out _ _ _ _).1, (FIN.out _ _ _ _).2⟩
  · have e12 : (k == 12) = false := by simp; omega
    have e26 : (k == 26) = false := by simp; omega
    have e29 : (k == 29) = false := by simp; omega
    go_wp2_with fail
    exact bodyPost_ret (v := .agg #[.int .i64 2, .int .i64 r, .int .i64 r, .int .i64 s]) (by simp [results, Tryd.results28, go_sem, c0, c1, c2, c3]) rfl ⟨⟨2, r, r, s⟩, rfl, ok_op (by decide) hr2 hr2 hs2, by simp, (FIN.out _ _ _ _).1, (FIN.out _ _ _ _).2⟩
end Go.Proofs.YtpmapdialjdcbaaDoor.C2
