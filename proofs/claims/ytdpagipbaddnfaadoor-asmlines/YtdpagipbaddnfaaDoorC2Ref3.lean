/-
  The reference: Shape; an instruction's bytes.
-/
import Derived.Test.YtdpagipbaddnfaaDoorC2Ref2
import Derived.Deep.RegionHeld3
import Derived.Deep.RegionLaw
import Derived.Test.YtdpagipbaddnfaaDoorC2Sizes
namespace Go.Proofs.YtdpagipbaddnfaaDoor.C2
open Go.RowKit

theorem boxed_one (w : World) (o a b c : Int) : Boxed (w.alloc (.cells #[.int .i64 o, .int .i64 a, .int .i64 b, .int .i64 c] 50)) w.heap.size o a b c := by
  constructor <;> simp
theorem Boxed.kept {w w' : World} {g : Nat} {o a b c : Int} (h : Boxed w g o a b c) (hb : Below w.heap.size w w') : Boxed w' g o a b c :=
  have st := still_of_below hb
  ⟨st _ _ h.c0, st _ _ h.c1, st _ _ h.c2, st _ _ h.c3⟩
set_option maxHeartbeats 1000000 in
theorem RShape_any (o a b c : Int) (w : World) : Calls Tryd.prog 32 #[.agg #[.int .i64 o, .int .i64 a, .int .i64 b, .int .i64 c]] w fun e w' => e = .returned (.bool (shapeB o a b c)) ∧ Below w.heap.size w w' := by
  have hB1 := boxed_one w o a b c
  have hb1 := below_alloc (Below.refl w.heap.size w) (.cells #[.int .i64 o, .int .i64 a, .int .i64 b, .int .i64 c] 50)
  obtain ⟨c0, c1, c2, c3⟩ := hB1
  have hB1 : Boxed _ _ o a b c := ⟨c0, c1, c2, c3⟩
  go_enter Tryd.func32, Tryd.ntmps32
  go_wp2_with fail
  refine (kinds_any o _).mono ?_
  rintro e w1 ⟨rfl, hb2'⟩
  have hb2 := below_then hb1 hb2'
  have hB2 := hB1.kept hb2'
  have k0 := kindOf_bd o 0 (by omega)
  have k1 := kindOf_bd o 1 (by omega)
  have k2 := kindOf_bd o 2 (by omega)
  have hq := shapeB_right o a b c
  clear hB1 hb1 hb2' c0 c1 c2 c3
  generalize kindOf o 0 = x0 at *
  generalize kindOf o 1 = x1 at *
  generalize kindOf o 2 = x2 at *
  have HQ : Hid (shapeB o a b c = (inB o 1 15 && rightB x0 a && rightB x1 b && rightB x2 c)) := hq
  clear hq
  have hb3 := below_alloc hb2 (.cells #[.int .i64 x0, .int .i64 x1, .int .i64 x2] 87)
  obtain ⟨c0, c1, c2, c3⟩ := hB2.kept (below_alloc (Below.refl _ _) (.cells #[.int .i64 x0, .int .i64 x1, .int .i64 x2] 87))
  clear hB2
  by_cases h1 : 1 ≤ o
  · by_cases h2 : o ≤ 15
    · have ho : inB o 1 15 = true := inB_iff.2 ⟨h1, h2⟩
      have HO : Hid (inB o 1 15 = _) := ho
      clear ho
      by_cases r0 : rightB x0 a = true
      · by_cases r1 : rightB x1 b = true
        · go_wp2_with (go_at_call 57; refine (right_any _ _ _ (by omega) (by omega)).mono ?_; rintro e w' ⟨rfl, rfl⟩)
          go_ret
          exact ⟨ret_bool (by rw [HQ.out, HO.out, r0, r1]; simp), hb3⟩
        · rw [Bool.not_eq_true] at r1
          go_wp2_with (go_at_call 57; refine (right_any _ _ _ (by omega) (by omega)).mono ?_; rintro e w' ⟨rfl, rfl⟩)
          go_ret
          exact ⟨ret_bool (by rw [HQ.out, r1]; simp), hb3⟩
      · rw [Bool.not_eq_true] at r0
        go_wp2_with (go_at_call 57; refine (right_any _ _ _ (by omega) (by omega)).mono ?_; rintro e w' ⟨rfl, rfl⟩)
        go_ret
        exact ⟨ret_bool (by rw [HQ.out, r0]; simp), hb3⟩
    · have hd : decide (o ≤ 15) = false := by simpa using h2
      have ho : inB o 1 15 = false := by simp [inB, h2]
      have HO : Hid (inB o 1 15 = _) := ho
      clear ho
      go_wp2_with (go_at_call 57; refine (right_any _ _ _ (by omega) (by omega)).mono ?_; rintro e w' ⟨rfl, rfl⟩)
      go_ret
      exact ⟨ret_bool (by rw [HQ.out, HO.out]; simp), hb3⟩
  · have hd : decide (1 ≤ o) = false := by simpa using h1
    have ho : inB o 1 15 = false := by simp [inB, h1]
    have HO : Hid (inB o 1 15 = _) := ho
    clear ho
    go_wp2_with (go_at_call 57; refine (right_any _ _ _ (by omega) (by omega)).mono ?_; rintro e w' ⟨rfl, rfl⟩)
    go_ret
    exact ⟨ret_bool (by rw [HQ.out, HO.out]; simp), hb3⟩
theorem conv_cells {P : Program} {w : World} {G : Nat} {l : List UInt8} {s d : TypeId} (h : ∀ j (hj : j < l.length), w.cell? ⟨G, j, none⟩ = some (.int .u8 (l[j].toNat : Int))) (n cp : Nat) (hn : n = l.length)
    (hs : P.underlying s = some (.slice 5)) (he : P.underlying 5 = some (.int .u8)) (hd : P.underlying d = some .string) :
    (convert s d (.slice (some ⟨G, 0, none⟩) n cp)).run P w = .ok (.string (strB l)) w := by
  subst hn
  rw [run_convert_bytes_string w s d 5 _ _ _ hs he hd]
  have hl : (loadCells ⟨G, 0, none⟩ l.length).run P w = .ok ((l.map fun x => (x.toNat : Int)).map (Value.int .u8)).toArray w := by
    have e2 : (l.map fun x => (x.toNat : Int)).map (Value.int .u8) = cellsU l := by simp [cellsU, cellU, Function.comp_def]
    have e1 : (cellsU l).length = l.length := by simp [cellsU]
    have h2 := run_loadCells_list (P := P) (w := w) ⟨G, 0, none⟩ (cellsU l) fun j v hv => by
      have hj : j < l.length := by rw [← e1]; exact (List.getElem?_eq_some_iff.1 hv).1
      have e : (⟨G, 0, none⟩ : Addr).add j = ⟨G, j, none⟩ := by unfold Addr.add; split <;> simp_all
      rw [e, h j hj, ← hv]
      simp [cellsU, cellU, hj]
    rw [e1] at h2
    rw [h2, e2]
  rw [run_bytesToString w _ _ _ _ hl, push_fold]
  simp [strB, ByteArray.empty, ByteArray.emptyWithCapacity]
  rfl
/-- a new row of bytes, read as a string -/
theorem conv_new (w : World) (l : List UInt8) (cs : Array Value) (hc : cs = (cellsU l).toArray) (n : Nat) (hn : n = l.length) : (convert 76 9 (.slice (some ⟨w.heap.size, 0, none⟩) n n)).run Tryd.prog (w.alloc (.cells cs 5)) = .ok (.string (strB l)) (w.alloc (.cells cs 5)) := by
  refine conv_cells (fun j hj => ?_) n n hn Tryd.underlying76 Tryd.underlying5 Tryd.underlying9
  rw [cell_of_row _ _ _ _ _ _ (heap_alloc_new w _), hc]
  simp [cellsU, cellU, hj]
theorem conv_drew (w : World) (l : List UInt8) (cs : Array Value) (hc : cs = (cellsU l).toArray) (n : Nat) (hn : n = l.length) : (convert 76 9 (.slice (some ⟨w.heap.size, 0, none⟩) n n)).run Tryd.prog (w.alloc (.cells cs 5)).drew = .ok (.string (strB l)) (w.alloc (.cells cs 5)).drew := by
  refine conv_cells (fun j hj => ?_) n n hn Tryd.underlying76 Tryd.underlying5 Tryd.underlying9
  show (w.alloc (.cells cs 5)).cell? _ = _
  rw [cell_of_row _ _ _ _ _ _ (heap_alloc_new w _), hc]
  simp [cellsU, cellU, hj]
theorem conv_kept (w w2 : World) (l : List UInt8) (cs : Array Value) (hc : cs = (cellsU l).toArray) (n : Nat) (hn : n = l.length) (hb : Below (w.alloc (.cells cs 5)).drew.heap.size (w.alloc (.cells cs 5)).drew w2) : (convert 76 9 (.slice (some ⟨w.heap.size, 0, none⟩) n n)).run Tryd.prog w2 = .ok (.string (strB l)) w2 := by
  refine conv_cells (fun j hj => ?_) n n hn Tryd.underlying76 Tryd.underlying5 Tryd.underlying9
  refine still_of_below hb _ _ ?_
  show (w.alloc (.cells cs 5)).cell? _ = _
  rw [cell_of_row _ _ _ _ _ _ (heap_alloc_new w _), hc]
  simp [cellsU, cellU, hj]
theorem strB_append (a b : List UInt8) : strB a ++ strB b = strB (a ++ b) := by
  apply WideShapes.bytes_inj
  simp [strB, ByteArray.data_append]
theorem ret_cat (a b : List UInt8) : Ending.returned (.string (strB a ++ strB b)) = .returned (.string (strB (a ++ b))) := by rw [strB_append]
theorem wrap_u8 (v : Int) : IntKind.u8.wrap v = v % 256 := by simp [IntKind.wrap, IntKind.bits, IntKind.signed]
theorem byte0 (v : Int) : cellU (byteN v 0) = .int .u8 (v % 256) := by rw [cellU_byteN]; simp
theorem byte1 (v : Int) : cellU (byteN v 1) = .int .u8 (v / 256 % 256) := by rw [cellU_byteN]; rfl
theorem byte2 (v : Int) : cellU (byteN v 2) = .int .u8 (v / 65536 % 256) := by rw [cellU_byteN]; rfl
theorem byte3 (v : Int) : cellU (byteN v 3) = .int .u8 (v / 16777216 % 256) := by rw [cellU_byteN]; rfl
theorem be1 (v : Int) : be 1 v = [byteN v 0] := rfl
theorem be2 (v : Int) : be 2 v = [byteN v 1, byteN v 0] := rfl
theorem be4 (v : Int) : be 4 v = [byteN v 3, byteN v 2, byteN v 1, byteN v 0] := rfl
set_option maxHeartbeats 1000000 in
theorem four_any (v : Int) (w : World) : Calls Tryd.prog 72 #[.int .i64 v] w fun e w' => e = .returned (.string (strB (be 4 v))) ∧ Below w.heap.size w w' := by
  have kc := conv_new w (be 4 v) #[.int .u8 (v / 16777216 % 256), .int .u8 (v / 65536 % 256), .int .u8 (v / 256 % 256), .int .u8 (v % 256)] (by simp [be4, cellsU, byte0, byte1, byte2, byte3]) 4 (by rw [be_length])
  go_enter Tryd.func72, Tryd.ntmps72
  go_wp2_with fail
  go_ret
  exact ⟨rfl, (Below.refl _ _).alloc (Nat.le_refl _) _⟩
theorem insB_const (o a b c : Int) (h : o = 1) : insB o a b c = be 1 o ++ be 1 a ++ be 4 b := by
  subst h
  simp [insB, restB, widthOf, be]
theorem insB_other (o a b c : Int) (h : ¬ o = 1) : insB o a b c = be 1 o ++ be 1 a ++ be 1 b ++ be 1 c := by
  simp [insB, restB, widthOf, h]
set_option maxHeartbeats 4000000 in
theorem rins_any (o a b c : Int) (w : World) : Calls Tryd.prog 60 #[.agg #[.int .i64 o, .int .i64 a, .int .i64 b, .int .i64 c]] w fun e w' => e = .returned (.string (strB (insB o a b c))) ∧ Below w.heap.size w w' := by
  have hB1 := boxed_one w o a b c
  have hb1 := below_alloc (Below.refl w.heap.size w) (.cells #[.int .i64 o, .int .i64 a, .int .i64 b, .int .i64 c] 50)
  by_cases ho : o = 1
  · have h1 : (o == 1) = true := by simp [ho]
    rw [insB_const o a b c ho]
    clear ho
    obtain ⟨c0, c1, c2, c3⟩ := hB1
    have hB1 : Boxed _ _ o a b c := ⟨c0, c1, c2, c3⟩
    have kcn := fun w : World => conv_new w (be 1 o ++ be 1 a) #[.int .u8 (IntKind.u8.wrap o), .int .u8 (IntKind.u8.wrap a)] (by simp [be1, cellsU, byte0, wrap_u8]) 2 (by simp [be_length])
    have kcd := fun w : World => conv_drew w (be 1 o ++ be 1 a) #[.int .u8 (IntKind.u8.wrap o), .int .u8 (IntKind.u8.wrap a)] (by simp [be1, cellsU, byte0, wrap_u8]) 2 (by simp [be_length])
    have hs1 : (strB (be 1 o ++ be 1 a)).size = 2 := by rw [strB_size]; simp [be_length]
    have hs2 : (strB (be 4 b)).size = 4 := by rw [strB_size, be_length]
    go_enter Tryd.func60, Tryd.ntmps60
    go_wp2_with fail
    generalize w.alloc (.cells #[.int .i64 o, .int .i64 a, .int .i64 b, .int .i64 c] 50) = W at *
    have ca0 := fun x : Obj => still_alloc W x _ _ c0
    have ca1 := fun x : Obj => still_alloc W x _ _ c1
    have ca2 := fun x : Obj => still_alloc W x _ _ c2
    go_region_law (first | (go_simp; go_at_call 72; refine (four_any _ _).mono ?_; rintro e w2 ⟨rfl, hb2⟩; have c02 := still_of_below hb2 _ _ (by first | exact c0 | exact still_alloc _ _ _ _ c0); have c12 := still_of_below hb2 _ _ (by first | exact c1 | exact still_alloc _ _ _ _ c1); have c22 := still_of_below hb2 _ _ (by first | exact c2 | exact still_alloc _ _ _ _ c2); have cb0 := fun x : Obj => still_alloc w2 x _ _ c02; have cb1 := fun x : Obj => still_alloc w2 x _ _ c12; try have kc2 := conv_kept W w2 (be 1 o ++ be 1 a) #[.int .u8 (IntKind.u8.wrap o), .int .u8 (IntKind.u8.wrap a)] (by simp [be1, cellsU, byte0, wrap_u8]) 2 (by simp [be_length]) hb2))
    all_goals (go_wp2_with fail; go_ret; first | exact ⟨ret_cat _ _, below_then (below_alloc hb1 _).drew hb2⟩ | exact ⟨ret_cat _ _, below_alloc (below_then hb1.drew hb2) _⟩)
  · have h1 : (o == 1) = false := by simp [ho]
    rw [insB_other o a b c ho]
    clear ho
    have kc := conv_new (w.alloc (.cells #[.int .i64 o, .int .i64 a, .int .i64 b, .int .i64 c] 50)) (be 1 o ++ be 1 a ++ be 1 b ++ be 1 c) #[.int .u8 (o % 256), .int .u8 (a % 256), .int .u8 (b % 256), .int .u8 (c % 256)] (by simp [be1, cellsU, byte0]) 4 (by simp [be_length])
    rw [show (w.alloc (.cells #[.int .i64 o, .int .i64 a, .int .i64 b, .int .i64 c] 50)).heap.size = w.heap.size + 1 by simp] at kc
    go_enter Tryd.func60, Tryd.ntmps60
    go_wp2_with fail
    go_ret
    exact ⟨rfl, below_alloc hb1 _⟩
end Go.Proofs.YtdpagipbaddnfaaDoor.C2