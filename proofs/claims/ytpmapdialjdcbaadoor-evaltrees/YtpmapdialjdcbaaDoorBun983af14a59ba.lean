/-
  Helpers: C2Ref3, C2Ref4, V5Vr, V5Vs.
-/
import Derived.Test.YtpmapdialjdcbaaDoorBun500076cf42fb
import Derived.Deep.RegionHeld3
import Derived.Deep.RegionLaw
import Derived.Test.YtpmapdialjdcbaaDoorBun53d5438622c1
import Derived.Test.YtpmapdialjdcbaaDoorBun08ba12097ca8
import Derived.Test.YtpmapdialjdcbaaDoorBun9ff45d95bd25
namespace Go.Proofs.YtpmapdialjdcbaaDoor.C2
open Go.RowKit

theorem boxed_one (w : World) (o a b c : Int) : Boxed (w.alloc (.cells #[.int .i64 o, .int .i64 a, .int .i64 b, .int .i64 c] 54)) w.heap.size o a b c := by
  constructor <;> simp
theorem Boxed.kept {w w' : World} {g : Nat} {o a b c : Int} (h : Boxed w g o a b c) (hb : Below w.heap.size w w') : Boxed w' g o a b c :=
  have st := still_of_below hb
  ⟨st _ _ h.c0, st _ _ h.c1, st _ _ h.c2, st _ _ h.c3⟩
set_option maxHeartbeats 1000000 in
theorem RShape_any (o a b c : Int) (w : World) : Calls Tryd.prog 52 #[.agg #[.int .i64 o, .int .i64 a, .int .i64 b, .int .i64 c]] w fun e w' => e = .returned (.bool (shapeB o a b c)) ∧ Below w.heap.size w w' := by
  have hB1 := boxed_one w o a b c
  have hb1 := below_alloc (Below.refl w.heap.size w) (.cells #[.int .i64 o, .int .i64 a, .int .i64 b, .int .i64 c] 54)
  obtain ⟨c0, c1, c2, c3⟩ := hB1
  have hB1 : Boxed _ _ o a b c := ⟨c0, c1, c2, c3⟩
  go_enter Tryd.func52, Tryd.ntmps52
  go_wp2_with fail
  refine (kinds_any o _).mono ?_
  rintro e w1 ⟨rfl, hb2'⟩
  have hb2 := below_then hb1 hb2'
  have hB2 := hB1.kept hb2'
  have k0 := kindOf_bd o 0 (by omega)
  have k1 := kindOf_bd o 1 (by omega)
  have k2 := kindOf_bd o 2 (by omega)
  have hq := shapeB_right o a b c
  clear hB1 hb1 hb2' c0 c1 c2 c3
  generalize kindOf o 0 = x0 at *
  generalize kindOf o 1 = x1 at *
  generalize kindOf o 2 = x2 at *
  have HQ : Hid (shapeB o a b c = (inB o 1 15 && rightB x0 a && rightB x1 b && rightB x2 c)) := hq
  clear hq
  have hb3 := below_alloc hb2 (.cells #[.int .i64 x0, .int .i64 x1, .int .i64 x2] 107)
  obtain ⟨c0, c1, c2, c3⟩ := hB2.kept (below_alloc (Below.refl _ _) (.cells #[.int .i64 x0, .int .i64 x1, .int .i64 x2] 107))
  clear hB2
  by_cases h1 : 1 ≤ o
  · by_cases h2 : o ≤ 15
    · have ho : inB o 1 15 = true := inB_iff.2 ⟨h1, h2⟩
      have HO : Hid (inB o 1 15 = _) := ho
      clear ho
      by_cases r0 : rightB x0 a = true
      · by_cases r1 : rightB x1 b = true
        · go_wp2_with (go_at_call 76; refine (right_any _ _ _ (by omega) (by omega)).mono ?_; rintro e w' ⟨rfl, rfl⟩)
          go_ret
          exact ⟨ret_bool (by rw [HQ.out, HO.out, r0, r1]; simp), hb3⟩
        · rw [Bool.not_eq_true] at r1
          go_wp2_with (go_at_call 76; refine (right_any _ _ _ (by omega) (by omega)).mono ?_; rintro e w' ⟨rfl, rfl⟩)
          go_ret
          exact ⟨ret_bool (by rw [HQ.out, r1]; simp), hb3⟩
      · rw [Bool.not_eq_true] at r0
        go_wp2_with (go_at_call 76; refine (right_any _ _ _ (by omega) (by omega)).mono ?_; rintro e w' ⟨rfl, rfl⟩)
        go_ret
        exact ⟨ret_bool (by rw [HQ.out, r0]; simp), hb3⟩
    · have hd : decide (o ≤ 15) = false := by simpa using h2
      have ho : inB o 1 15 = false := by simp [inB, h2]
      have HO : Hid (inB o 1 15 = _) := ho
      clear ho
      go_wp2_with (go_at_call 76; refine (right_any _ _ _ (by omega) (by omega)).mono ?_; rintro e w' ⟨rfl, rfl⟩)
      go_ret
      exact ⟨ret_bool (by rw [HQ.out, HO.out]; simp), hb3⟩
  · have hd : decide (1 ≤ o) = false := by simpa using h1
    have ho : inB o 1 15 = false := by simp [inB, h1]
    have HO : Hid (inB o 1 15 = _) := ho
    clear ho
    go_wp2_with (go_at_call 76; refine (right_any _ _ _ (by omega) (by omega)).mono ?_; rintro e w' ⟨rfl, rfl⟩)
    go_ret
    exact ⟨ret_bool (by rw [HQ.out, HO.out]; simp), hb3⟩
theorem conv_cells {P : Program} {w : World} {G : Nat} {l : List UInt8} {s d : TypeId} (h : ∀ j (hj : j < l.length), w.cell? ⟨G, j, none⟩ = some (.int .u8 (l[j].toNat : Int))) (n cp : Nat) (hn : n = l.length)
    (hs : P.underlying s = some (.slice 5)) (he : P.underlying 5 = some (.int .u8)) (hd : P.underlying d = some .string) :
    (convert s d (.slice (some ⟨G, 0, none⟩) n cp)).run P w = .ok (.string (strB l)) w := by
  subst hn
  rw [run_convert_bytes_string w s d 5 _ _ _ hs he hd]
  have hl : (loadCells ⟨G, 0, none⟩ l.length).run P w = .ok ((l.map fun x => (x.toNat : Int)).map (Value.int .u8)).toArray w := by
    have e2 : (l.map fun x => (x.toNat : Int)).map (Value.int .u8) = cellsU l := by simp [cellsU, cellU, Function.comp_def]
    have e1 : (cellsU l).length = l.length := by simp [cellsU]
    have h2 := run_loadCells_list (P := P) (w := w) ⟨G, 0, none⟩ (cellsU l) fun j v hv => by
      have hj : j < l.length := by rw [← e1]; exact (List.getElem?_eq_some_iff.1 hv).1
      have e : (⟨G, 0, none⟩ : Addr).add j = ⟨G, j, none⟩ := by unfold Addr.add; split <;> simp_all
      rw [e, h j hj, ← hv]
      simp [cellsU, cellU, hj]
    rw [e1] at h2
    rw [h2, e2]
  rw [run_bytesToString w _ _ _ _ hl, push_fold]
  simp [strB, ByteArray.empty, ByteArray.emptyWithCapacity]
  rfl
/-- a new row of bytes, read as a string -/
theorem conv_new (w : World) (l : List UInt8) (cs : Array Value) (hc : cs = (cellsU l).toArray) (n : Nat) (hn : n = l.length) : (convert 93 9 (.slice (some ⟨w.heap.size, 0, none⟩) n n)).run Tryd.prog (w.alloc (.cells cs 5)) = .ok (.string (strB l)) (w.alloc (.cells cs 5)) := by
  refine conv_cells (fun j hj => ?_) n n hn Tryd.underlying93 Tryd.underlying5 Tryd.underlying9
  rw [cell_of_row _ _ _ _ _ _ (heap_alloc_new w _), hc]
  simp [cellsU, cellU, hj]
theorem conv_drew (w : World) (l : List UInt8) (cs : Array Value) (hc : cs = (cellsU l).toArray) (n : Nat) (hn : n = l.length) : (convert 93 9 (.slice (some ⟨w.heap.size, 0, none⟩) n n)).run Tryd.prog (w.alloc (.cells cs 5)).drew = .ok (.string (strB l)) (w.alloc (.cells cs 5)).drew := by
  refine conv_cells (fun j hj => ?_) n n hn Tryd.underlying93 Tryd.underlying5 Tryd.underlying9
  show (w.alloc (.cells cs 5)).cell? _ = _
  rw [cell_of_row _ _ _ _ _ _ (heap_alloc_new w _), hc]
  simp [cellsU, cellU, hj]
theorem conv_kept (w w2 : World) (l : List UInt8) (cs : Array Value) (hc : cs = (cellsU l).toArray) (n : Nat) (hn : n = l.length) (hb : Below (w.alloc (.cells cs 5)).drew.heap.size (w.alloc (.cells cs 5)).drew w2) : (convert 93 9 (.slice (some ⟨w.heap.size, 0, none⟩) n n)).run Tryd.prog w2 = .ok (.string (strB l)) w2 := by
  refine conv_cells (fun j hj => ?_) n n hn Tryd.underlying93 Tryd.underlying5 Tryd.underlying9
  refine still_of_below hb _ _ ?_
  show (w.alloc (.cells cs 5)).cell? _ = _
  rw [cell_of_row _ _ _ _ _ _ (heap_alloc_new w _), hc]
  simp [cellsU, cellU, hj]
theorem strB_append (a b : List UInt8) : strB a ++ strB b = strB (a ++ b) := by
  apply WideShapes.bytes_inj
  simp [strB, ByteArray.data_append]
theorem ret_cat (a b : List UInt8) : Ending.returned (.string (strB a ++ strB b)) = .returned (.string (strB (a ++ b))) := by rw [strB_append]
theorem wrap_u8 (v : Int) : IntKind.u8.wrap v = v % 256 := by simp [IntKind.wrap, IntKind.bits, IntKind.signed]
theorem byte0 (v : Int) : cellU (byteN v 0) = .int .u8 (v % 256) := by rw [cellU_byteN]; simp
theorem byte1 (v : Int) : cellU (byteN v 1) = .int .u8 (v / 256 % 256) := by rw [cellU_byteN]; rfl
theorem byte2 (v : Int) : cellU (byteN v 2) = .int .u8 (v / 65536 % 256) := by rw [cellU_byteN]; rfl
theorem byte3 (v : Int) : cellU (byteN v 3) = .int .u8 (v / 16777216 % 256) := by rw [cellU_byteN]; rfl
theorem be1 (v : Int) : be 1 v = [byteN v 0] := rfl
theorem be2 (v : Int) : be 2 v = [byteN v 1, byteN v 0] := rfl
theorem be4 (v : Int) : be 4 v = [byteN v 3, byteN v 2, byteN v 1, byteN v 0] := rfl
set_option maxHeartbeats 1000000 in
theorem four_any (v : Int) (w : World) : Calls Tryd.prog 77 #[.int .i64 v] w fun e w' => e = .returned (.string (strB (be 4 v))) ∧ Below w.heap.size w w' := by
  have kc := conv_new w (be 4 v) #[.int .u8 (v / 16777216 % 256), .int .u8 (v / 65536 % 256), .int .u8 (v / 256 % 256), .int .u8 (v % 256)] (by simp [be4, cellsU, byte0, byte1, byte2, byte3]) 4 (by rw [be_length])
  go_enter Tryd.func77, Tryd.ntmps77
  go_wp2_with fail
  go_ret
  exact ⟨rfl, (Below.refl _ _).alloc (Nat.le_refl _) _⟩
theorem insB_const (o a b c : Int) (h : o = 1) : insB o a b c = be 1 o ++ be 1 a ++ be 4 b := by
  subst h
  simp [insB, restB, widthOf, be]
theorem insB_other (o a b c : Int) (h : ¬ o = 1) : insB o a b c = be 1 o ++ be 1 a ++ be 1 b ++ be 1 c := by
  simp [insB, restB, widthOf, h]
set_option maxHeartbeats 4000000 in
theorem rins_any (o a b c : Int) (w : World) : Calls Tryd.prog 53 #[.agg #[.int .i64 o, .int .i64 a, .int .i64 b, .int .i64 c]] w fun e w' => e = .returned (.string (strB (insB o a b c))) ∧ Below w.heap.size w w' := by
  have hB1 := boxed_one w o a b c
  have hb1 := below_alloc (Below.refl w.heap.size w) (.cells #[.int .i64 o, .int .i64 a, .int .i64 b, .int .i64 c] 54)
  by_cases ho : o = 1
  · have h1 : (o == 1) = true := by simp [ho]
    rw [insB_const o a b c ho]
    clear ho
    obtain ⟨c0, c1, c2, c3⟩ := hB1
    have hB1 : Boxed _ _ o a b c := ⟨c0, c1, c2, c3⟩
    have kcn := fun w : World => conv_new w (be 1 o ++ be 1 a) #[.int .u8 (IntKind.u8.wrap o), .int .u8 (IntKind.u8.wrap a)] (by simp [be1, cellsU, byte0, wrap_u8]) 2 (by simp [be_length])
    have kcd := fun w : World => conv_drew w (be 1 o ++ be 1 a) #[.int .u8 (IntKind.u8.wrap o), .int .u8 (IntKind.u8.wrap a)] (by simp [be1, cellsU, byte0, wrap_u8]) 2 (by simp [be_length])
    have hs1 : (strB (be 1 o ++ be 1 a)).size = 2 := by rw [strB_size]; simp [be_length]
    have hs2 : (strB (be 4 b)).size = 4 := by rw [strB_size, be_length]
    go_enter Tryd.func53, Tryd.ntmps53
    go_wp2_with fail
    generalize w.alloc (.cells #[.int .i64 o, .int .i64 a, .int .i64 b, .int .i64 c] 54) = W at *
    have ca0 := fun x : Obj => still_alloc W x _ _ c0
    have ca1 := fun x : Obj => still_alloc W x _ _ c1
    have ca2 := fun x : Obj => still_alloc W x _ _ c2
    go_region_law (first | (go_simp; go_at_call 77; refine (four_any _ _).mono ?_; rintro e w2 ⟨rfl, hb2⟩; have c02 := still_of_below hb2 _ _ (by first | exact c0 | exact still_alloc _ _ _ _ c0); have c12 := still_of_below hb2 _ _ (by first | exact c1 | exact still_alloc _ _ _ _ c1); have c22 := still_of_below hb2 _ _ (by first | exact c2 | exact still_alloc _ _ _ _ c2); have cb0 := fun x : Obj => still_alloc w2 x _ _ c02; have cb1 := fun x : Obj => still_alloc w2 x _ _ c12; try have kc2 := conv_kept W w2 (be 1 o ++ be 1 a) #[.int .u8 (IntKind.u8.wrap o), .int .u8 (IntKind.u8.wrap a)] (by simp [be1, cellsU, byte0, wrap_u8]) 2 (by simp [be_length]) hb2))
    all_goals (go_wp2_with fail; go_ret; first | exact ⟨ret_cat _ _, below_then (below_alloc hb1 _).drew hb2⟩ | exact ⟨ret_cat _ _, below_alloc (below_then hb1.drew hb2) _⟩)
  · have h1 : (o == 1) = false := by simp [ho]
    rw [insB_other o a b c ho]
    clear ho
    have kc := conv_new (w.alloc (.cells #[.int .i64 o, .int .i64 a, .int .i64 b, .int .i64 c] 54)) (be 1 o ++ be 1 a ++ be 1 b ++ be 1 c) #[.int .u8 (o % 256), .int .u8 (a % 256), .int .u8 (b % 256), .int .u8 (c % 256)] (by simp [be1, cellsU, byte0]) 4 (by simp [be_length])
    rw [show (w.alloc (.cells #[.int .i64 o, .int .i64 a, .int .i64 b, .int .i64 c] 54)).heap.size = w.heap.size + 1 by simp] at kc
    go_enter Tryd.func53, Tryd.ntmps53
    go_wp2_with fail
    go_ret
    exact ⟨rfl, below_alloc hb1 _⟩
end Go.Proofs.YtpmapdialjdcbaaDoor.C2
namespace Go.Proofs.YtpmapdialjdcbaaDoor.C2
open Go.RowKit

def hdrB (p : Pr) : Bool := inB p.futs 0 16 && inB p.depth 0 5 && inB p.fuel 1 500
theorem hdr_no {p : Pr} (h : hdrB p = false) : soundB p = false := by
  unfold soundB
  unfold hdrB at h
  rw [h]
  simp
theorem mgp_head (p : Pr) : (⟨#[77, 71, 80]⟩ : ByteArray) ++ strB (be 1 p.futs ++ be 1 p.depth ++ be 2 p.fuel ++ be 1 p.fs.length) = strB (headB p) := by
  have : (⟨#[77, 71, 80]⟩ : ByteArray) = strB [77, 71, 80] := rfl
  rw [this, strB_append]
  simp [headB]
def RPutPost (p : Pr) (w : World) (e : Ending) (w' : World) : Prop := e = .returned (.tuple #[.string (strB (putT p)), .int .i64 (putE p)]) ∧ Below w.heap.size w w'
theorem rput_big {p : Pr} {w w' : World} (h : bigB p.fs = true) (hb : Below w.heap.size w w') : RPutPost p w (.returned (.tuple #[.string ⟨#[]⟩, .int .i64 2])) w' := by
  refine ⟨?_, hb⟩
  simp [putT, putE, h, strB]
theorem rput_arg {p : Pr} {w w' : World} (h : bigB p.fs = false) (h2 : soundB p = false) (hb : Below w.heap.size w w') : RPutPost p w (.returned (.tuple #[.string ⟨#[]⟩, .int .i64 1])) w' := by
  refine ⟨?_, hb⟩
  simp [putT, putE, h, h2, strB]
theorem rput_ok {p : Pr} {w w' : World} {S : ByteArray} (hS : S = strB (putB p)) (h : bigB p.fs = false) (h2 : soundB p = true) (hb : Below w.heap.size w w') : RPutPost p w (.returned (.tuple #[.string S, .int .i64 0])) w' := by
  refine ⟨?_, hb⟩
  rw [hS]
  simp [putT, putE, h, h2]
set_option maxHeartbeats 4000000 in
set_option maxRecDepth 4000 in
theorem RPut_any (p : Pr) (fv : Value) (w : World) (hF : SlF w fv p.fs) (hn : p.fs.length ≤ 1000000) (hm : ∀ f ∈ p.fs, f.length ≤ 1000000) :
    Calls Tryd.prog 33 #[.agg #[fv, .int .i64 p.futs, .int .i64 p.depth, .int .i64 p.fuel]] w fun e w' => RPutPost p w e w' := by
  have hF0 := hF
  obtain ⟨fa, fc, rfl, -⟩ := hF0
  have hB1 := BoxedP.made hF
  have hb1 := below_alloc (Below.refl w.heap.size w) (.cells #[.slice fa p.fs.length fc, .int .i64 p.futs, .int .i64 p.depth, .int .i64 p.fuel] 24)
  clear hF
  by_cases h12 : 12 < p.fs.length
  · have hbig : bigB p.fs = true := by simp [bigB, h12]
    have HBG : Hid (bigB p.fs = true) := hbig
    clear hbig
    go_enter Tryd.func33, Tryd.ntmps33
    go_wp2_with fail
    go_ret2
    exact rput_big HBG.out hb1
  · have hd12 : decide ((12 : Int) < (p.fs.length : Int)) = false := by simp; omega
    go_enter Tryd.func33, Tryd.ntmps33
    go_wp2_with fail
    generalize hW0 : w.alloc (.cells #[.slice fa p.fs.length fc, .int .i64 p.futs, .int .i64 p.depth, .int .i64 p.fuel] 24) = W0 at *
    clear hW0
    go_loopw [4] (fun iv wr => ∃ i : Nat, i ≤ p.fs.length ∧ iv = .int .i64 i ∧ (∀ k (h : k < p.fs.length), k < i → ¬ 40 < p.fs[k].length) ∧ Below W0.heap.size W0 wr) (fun iv _ => p.fs.length - (intOf iv).toNat)
    case atStart => exact ⟨0, by omega, rfl, fun k _ hk => by omega, Below.refl _ _⟩
    case round =>
      obtain ⟨i, hi, rfl, hk, hBl⟩ := hrel
      have HK : Hid (∀ k (h : k < p.fs.length), k < i → ¬ 40 < p.fs[k].length) := hk
      clear hk
      have hB5 := hB1.kept hBl
      obtain ⟨d0, d1, d2, d3⟩ := hB5.cells
      by_cases hlt : i < p.fs.length
      · obtain ⟨fa', fc', he, hfx⟩ := hB5.fns
        obtain ⟨rfl, rfl⟩ : fa' = fa ∧ fc' = fc := by simp at he; exact ⟨he.1.symm, he.2.symm⟩
        clear he
        obtain ⟨g, f, u, rfl, hc, xa, xc, rfl, hI⟩ := hfx i hlt
        have hmi := hm _ (List.getElem_mem hlt)
        clear hfx hI
        by_cases h40 : 40 < p.fs[i].length
        · go_wp2_with fail
          go_ret2
          exact rput_big (big_at hlt h40) (below_then hb1 hBl)
        · go_wp2_with fail
          go_roundw
          case rel =>
            refine ⟨i + 1, by omega, by go_num, fun k h hk => ?_, hBl⟩
            by_cases e : k = i
            · subst e; exact h40
            · exact HK.out k h (by omega)
          case measure => simp [intOf]; omega
      · have hbig : bigB p.fs = false := big_not h12 fun k h => HK.out k h (by omega)
        have HBG : Hid (bigB p.fs = false) := hbig
        obtain ⟨hn12, hm40⟩ := not_big hbig
        have hb2 := below_then hb1 hBl
        clear hbig HK hB1 hBl hm hn
        by_cases a1 : p.futs < 0
        · have HS : Hid (soundB p = false) := hdr_no (by simp [hdrB, inB]; omega)
          go_wp2_with fail
          go_ret2
          exact rput_arg HBG.out HS.out hb2
        have a1' : decide (p.futs < 0) = false := by simpa using a1
        by_cases a2 : 16 < p.futs
        · have HS : Hid (soundB p = false) := hdr_no (by simp [hdrB, inB]; omega)
          go_wp2_with fail
          go_ret2
          exact rput_arg HBG.out HS.out hb2
        have a2' : decide (16 < p.futs) = false := by simpa using a2
        by_cases a3 : p.depth < 0
        · have HS : Hid (soundB p = false) := hdr_no (by simp [hdrB, inB]; omega)
          go_wp2_with fail
          go_ret2
          exact rput_arg HBG.out HS.out hb2
        have a3' : decide (p.depth < 0) = false := by simpa using a3
        by_cases a4 : 5 < p.depth
        · have HS : Hid (soundB p = false) := hdr_no (by simp [hdrB, inB]; omega)
          go_wp2_with fail
          go_ret2
          exact rput_arg HBG.out HS.out hb2
        have a4' : decide (5 < p.depth) = false := by simpa using a4
        by_cases a5 : p.fuel < 1
        · have HS : Hid (soundB p = false) := hdr_no (by simp [hdrB, inB]; omega)
          go_wp2_with fail
          go_ret2
          exact rput_arg HBG.out HS.out hb2
        have a5' : decide (p.fuel < 1) = false := by simpa using a5
        by_cases a6 : 500 < p.fuel
        · have HS : Hid (soundB p = false) := hdr_no (by simp [hdrB, inB]; omega)
          go_wp2_with fail
          go_ret2
          exact rput_arg HBG.out HS.out hb2
        have a6' : decide (500 < p.fuel) = false := by simpa using a6
        have hdr : hdrB p = true := by simp [hdrB, inB]; omega
        have HD : Hid (hdrB p = true) := hdr
        clear hdr
        have kc := conv_new wr (be 1 p.futs ++ be 1 p.depth ++ be 2 p.fuel ++ be 1 p.fs.length) #[.int .u8 p.futs, .int .u8 p.depth, .int .u8 (p.fuel / 256), .int .u8 (p.fuel % 256), .int .u8 (p.fs.length : Int)] (by
          have e1 : p.futs % 256 = p.futs := by omega
          have e2 : p.depth % 256 = p.depth := by omega
          have e3 : p.fuel / 256 % 256 = p.fuel / 256 := by omega
          have e4 : (p.fs.length : Int) % 256 = p.fs.length := by omega
          simp [be1, be2, cellsU, byte0, byte1, e1, e2, e3, e4]) 5 (by simp [be_length])
        have hsz : (strB (be 1 p.futs ++ be 1 p.depth ++ be 2 p.fuel ++ be 1 p.fs.length)).size = 5 := by rw [strB_size]; simp [be_length]
        have hmgp := mgp_head p
        have hhd : (headB p).length = 8 := by simp [headB, be_length]
        have HH : Hid ((headB p).length = 8) := hhd
        have hb3 := below_alloc hb2 (.cells #[.int .u8 p.futs, .int .u8 p.depth, .int .u8 (p.fuel / 256), .int .u8 (p.fuel % 256), .int .u8 (p.fs.length : Int)] 5)
        have hB6 := hB5.kept (below_alloc (Below.refl _ _) (.cells #[.int .u8 p.futs, .int .u8 p.depth, .int .u8 (p.fuel / 256), .int .u8 (p.fuel % 256), .int .u8 (p.fs.length : Int)] 5))
        clear hhd
        go_wp2_with fail
        clear hlt hi kc hsz hmgp a1' a2' a3' a4' a5' a6' a1 a2 a3 a4 a5 a6 d0 d1 d2 d3 hB5 hb2
        generalize hW3 : wr.alloc (.cells #[.int .u8 p.futs, .int .u8 p.depth, .int .u8 (p.fuel / 256), .int .u8 (p.fuel % 256), .int .u8 (p.fs.length : Int)] 5) = W3 at *
        clear hW3
        go_loopw [5, 6] (fun sv iv wr => ∃ k : Nat, k ≤ p.fs.length ∧ iv = .int .i64 k ∧ sv = .string (strB (headB p ++ funsB (p.fs.take k))) ∧ (∀ m (h : m < p.fs.length), m < k → p.fs[m].all shapeI = true) ∧ Below W3.heap.size W3 wr) (fun _ iv _ => p.fs.length - (intOf iv).toNat)
        case atStart => exact ⟨0, by omega, rfl, by rw [show headB p ++ funsB (p.fs.take 0) = headB p by simp [funsB]]; exact congrArg Value.string (mgp_head p), fun m _ hm => by omega, Below.refl _ _⟩
        case round =>
          obtain ⟨k, hk, rfl, rfl, hsh, hBl⟩ := hrel
          have HSH : Hid (∀ m (h : m < p.fs.length), m < k → p.fs[m].all shapeI = true) := hsh
          clear hsh
          have hyl : (strB (headB p ++ funsB (p.fs.take k))).size ≤ 7000 := by
            rw [strB_size]
            have h1 := funsB_length (p.fs.take k) fun f hf => hm40 f (List.mem_of_mem_take hf)
            have h2 := HH.out
            rw [List.length_append, h2]
            have h3 : (p.fs.take k).length ≤ 12 := by rw [List.length_take]; omega
            omega
          have hB7 := hB6.kept hBl
          obtain ⟨d0, d1, d2, d3⟩ := hB7.cells
          obtain ⟨W, rfl⟩ : ∃ W, W = wr := ⟨wr, rfl⟩
          by_cases hlt : k < p.fs.length
          · obtain ⟨fa', fc', he, hfx⟩ := hB7.fns
            obtain ⟨rfl, rfl⟩ : fa' = fa ∧ fc' = fc := by simp at he; exact ⟨he.1.symm, he.2.symm⟩
            clear he
            obtain ⟨g, f, u, rfl, hc, xa, xc, rfl, hI⟩ := hfx k hlt
            have hmk := hm40 _ (List.getElem_mem hlt)
            clear hfx
            generalize hys : headB p ++ funsB (p.fs.take k) = ys at *
            have HY : Hid (headB p ++ funsB (p.fs.take k) = ys) := hys
            clear hys
            have kc := conv_new W (be 1 p.fs[k].length) #[.int .u8 (p.fs[k].length : Int)] (by
              have e4 : (p.fs[k].length : Int) % 256 = p.fs[k].length := by omega
              simp [be1, cellsU, byte0, e4]) 1 (by simp [be_length])
            have hs1 : (strB (be 1 p.fs[k].length)).size = 1 := by rw [strB_size]; simp [be_length]
            have hap := strB_append ys (be 1 p.fs[k].length)
            have hb4 := below_alloc hBl (.cells #[.int .u8 (p.fs[k].length : Int)] 5)
            have st4 := still_of_below (below_alloc (Below.refl _ _) (w1 := W) (.cells #[.int .u8 (p.fs[k].length : Int)] 5))
            have hc4 := st4 _ _ hc
            have d04 := st4 _ _ d0
            go_wp2_with fail
            clear kc hs1 hap
            generalize hW4 : W.alloc (.cells #[.int .u8 (p.fs[k].length : Int)] 5) = W4 at *
            clear hW4
            go_loopw [5, 7] (fun sv jv wr => ∃ j : Nat, j ≤ p.fs[k].length ∧ jv = .int .i64 j ∧ sv = .string (strB (ys ++ be 1 p.fs[k].length ++ codeB (p.fs[k].take j))) ∧ (∀ m (h : m < p.fs[k].length), m < j → shapeI p.fs[k][m] = true) ∧ Below W4.heap.size W4 wr) (fun _ jv _ => p.fs[k].length - (intOf jv).toNat)
            case atStart => exact ⟨0, by omega, rfl, by simp [codeB], fun m _ hm => by omega, Below.refl _ _⟩
            case round =>
              obtain ⟨j, hj, rfl, rfl, hsj, hBi⟩ := hrel
              have HSJ : Hid (∀ m (h : m < p.fs[k].length), m < j → shapeI p.fs[k][m] = true) := hsj
              clear hsj
              have st := still_of_below hBi
              have d0' := st _ _ d04
              have hc' := st _ _ hc4
              have hzl : (strB (ys ++ be 1 p.fs[k].length ++ codeB (p.fs[k].take j))).size ≤ 8000 := by
                rw [strB_size]
                rw [strB_size] at hyl
                have h1 := codeB_length (p.fs[k].take j)
                have h2 : (p.fs[k].take j).length ≤ 40 := by rw [List.length_take]; omega
                simp only [List.length_append, be_length]
                omega
              generalize hzs : ys ++ be 1 p.fs[k].length ++ codeB (p.fs[k].take j) = zs at *
              have HZ : Hid (ys ++ be 1 p.fs[k].length ++ codeB (p.fs[k].take j) = zs) := hzs
              clear hzs
              by_cases hjl : j < p.fs[k].length
              · obtain ⟨g', f', rfl, hA⟩ := hI j hjl
                obtain ⟨x0, x1, x2, x3⟩ := (hA.still st4).still st
                go_wp2_with fail
                refine (RShape_any _ _ _ _ _).mono ?_
                rintro e w5 ⟨rfl, hb5'⟩
                by_cases hs : shapeB p.fs[k][j].o p.fs[k][j].a p.fs[k][j].b p.fs[k][j].c = true
                · rw [hs]
                  have HS : Hid (shapeB p.fs[k][j].o p.fs[k][j].a p.fs[k][j].b p.fs[k][j].c = true) := hs
                  clear hs
                  have hb5 := below_then hBi hb5'
                  have st5 := still_of_below hb5'
                  have y0 := st5 _ _ x0
                  have y1 := st5 _ _ x1
                  have y2 := st5 _ _ x2
                  have y3 := st5 _ _ x3
                  have d05 := st5 _ _ d0'
                  have hc5 := st5 _ _ hc'
                  clear hb5' x0 x1 x2 x3 d0' hc'
                  go_wp2_with fail
                  refine (rins_any _ _ _ _ _).mono ?_
                  rintro e w6 ⟨rfl, hb6'⟩
                  have hb6 := below_then hb5 hb6'
                  have hil : (strB (insB p.fs[k][j].o p.fs[k][j].a p.fs[k][j].b p.fs[k][j].c)).size ≤ 13 := by rw [strB_size]; exact insB_length _ _ _ _
                  have hap := strB_append zs (insB p.fs[k][j].o p.fs[k][j].a p.fs[k][j].b p.fs[k][j].c)
                  clear hb6' y0 y1 y2 y3 d05 hc5
                  go_wp2_with fail
                  go_roundw
                  case rel =>
                    refine ⟨j + 1, by omega, by go_num, ?_, fun m h hm => ?_, hb6⟩
                    · rw [codeB_snoc hjl, ← List.append_assoc, HZ.out]
                    · by_cases e : m = j
                      · subst e; exact HS.out
                      · exact HSJ.out m h (by omega)
                  case measure => simp [intOf]; omega
                · rw [Bool.not_eq_true] at hs
                  rw [hs]
                  have HS : Hid (soundB p = false) := sound_no hlt hjl hs
                  clear hs
                  go_wp2_with fail
                  go_ret2
                  exact rput_arg HBG.out HS.out (below_then hb3 (below_then hb4 (below_then hBi hb5')))
              · have hjj : j = p.fs[k].length := by omega
                have hsv : strB zs = strB (headB p ++ funsB (p.fs.take (k + 1))) := by
                  rw [← HZ.out, hjj, List.take_length, funsB_snoc hlt, ← List.append_assoc, HY.out, funB, ← List.append_assoc]
                have hall : p.fs[k].all shapeI = true := by
                  rw [List.all_eq_true]
                  intro x hx
                  obtain ⟨m, hm, rfl⟩ := List.getElem_of_mem hx
                  exact HSJ.out m hm (by omega)
                have HALL : Hid (p.fs[k].all shapeI = true) := hall
                have HSV : Hid (strB zs = strB (headB p ++ funsB (p.fs.take (k + 1)))) := hsv
                clear hall hjj hsv
                go_wp2_with fail
                go_roundw
                case rel =>
                  refine ⟨k + 1, by omega, by go_num, by rw [HSV.out], fun m h hm => ?_, below_then hb4 hBi⟩
                  by_cases e : m = k
                  · subst e; exact HALL.out
                  · exact HSH.out m h (by omega)
                case measure => simp [intOf]; omega
          · have hkk : k = p.fs.length := by omega
            have hsv : strB (headB p ++ funsB (p.fs.take k)) = strB (putB p) := by rw [hkk, List.take_length, putB]
            have hsound : soundB p = true := by
              rw [sound_yes fun k h j h2 => List.all_eq_true.1 (HSH.out k h (by omega)) _ (List.getElem_mem h2)]
              exact HD.out
            have HS : Hid (soundB p = true) := hsound
            have HSV : Hid (strB (headB p ++ funsB (p.fs.take k)) = strB (putB p)) := hsv
            clear hsound hkk hsv
            go_wp2_with fail
            go_ret2
            exact rput_ok HSV.out HBG.out HS.out (below_then hb3 hBl)
end Go.Proofs.YtpmapdialjdcbaaDoor.C2
namespace Go.Proofs.YtpmapdialjdcbaaDoor.V5
open Go.RowKit
open C2 (In Pr SlF SlI InsAt Tab BoxedP below_alloc below_then still_of_below Still putE)

set_option maxHeartbeats 1000000 in
theorem rright_any (p : Pr) (fa : Option Addr) (fc : Nat) (n : Int) (x : In) (w : World) :
    Calls Tryd.prog 34 #[.agg #[.slice fa p.fs.length fc, .int .i64 p.futs, .int .i64 p.depth, .int .i64 p.fuel], .int .i64 n, .agg #[.int .i64 x.o, .int .i64 x.a, .int .i64 x.b, .int .i64 x.c]] w fun e w' => e = .returned (.bool (rightB p.fs.length p.futs n x)) ∧ Below w.heap.size w w' := by
  have hb := below_alloc (below_alloc (Below.refl w.heap.size w) (.cells #[.slice fa p.fs.length fc, .int .i64 p.futs, .int .i64 p.depth, .int .i64 p.fuel] 24)) (.cells #[.int .i64 x.o, .int .i64 x.a, .int .i64 x.b, .int .i64 x.c] 54)
  obtain ⟨o, a, b, c⟩ := x
  unfold rightB
  simp only
  by_cases h7 : o = 7
  · subst h7
    go_enter Tryd.func34, Tryd.ntmps34
    go_wp2_with fail
    go_ret
    exact ⟨by simp, hb⟩
  have e7 : (o == 7) = false := by simpa using h7
  by_cases h8 : o = 8
  · subst h8
    go_enter Tryd.func34, Tryd.ntmps34
    go_wp2_with fail
    go_ret
    exact ⟨by simp, hb⟩
  have e8 : (o == 8) = false := by simpa using h8
  by_cases h9 : o = 9
  · subst h9
    go_enter Tryd.func34, Tryd.ntmps34
    go_wp2_with fail
    go_ret
    exact ⟨by simp, hb⟩
  have e9 : (o == 9) = false := by simpa using h9
  by_cases h11 : o = 11
  · subst h11
    go_enter Tryd.func34, Tryd.ntmps34
    go_wp2_with fail
    go_ret
    exact ⟨by simp, hb⟩
  have e11 : (o == 11) = false := by simpa using h11
  by_cases h12 : o = 12
  · subst h12
    go_enter Tryd.func34, Tryd.ntmps34
    go_wp2_with fail
    go_ret
    exact ⟨by simp, hb⟩
  have e12 : (o == 12) = false := by simpa using h12
  rw [if_neg h7, if_neg h8, if_neg h9, if_neg h11, if_neg h12]
  clear h7 h8 h9 h11 h12
  go_enter Tryd.func34, Tryd.ntmps34
  go_wp2_with fail
  go_ret
  exact ⟨rfl, hb⟩
end Go.Proofs.YtpmapdialjdcbaaDoor.V5
namespace Go.Proofs.YtpmapdialjdcbaaDoor.V5
open Go.RowKit
open C2 (In Pr SlF SlI InsAt Tab BoxedP below_alloc below_then still_of_below Still putE)

theorem own_slN {w : World} {base : Nat} {v : Value} {xs : List Int} (h : w.ownsRow base 3 1 v xs.length (xs.map numV)) : SlN w v xs := by
  rcases h.2 with ⟨rfl, h0⟩ | ⟨g, cap, cur, rfl, hb, hg, hn, hc, hs, ht⟩
  · obtain rfl : xs = [] := List.eq_nil_of_length_eq_zero h0
    exact ⟨none, 0, rfl, fun k hk => by simp at hk⟩
  · refine ⟨some ⟨g, 0, none⟩, cap, rfl, fun k hk => ⟨g, 0, rfl, ?_⟩⟩
    rw [Nat.zero_add, h.cellAt k (by omega)]
    simp [hk, numV]
end Go.Proofs.YtpmapdialjdcbaaDoor.V5
