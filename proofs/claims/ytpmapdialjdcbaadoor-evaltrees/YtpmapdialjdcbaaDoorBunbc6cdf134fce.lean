/-
  Helpers: C2Put, C2Put2.
-/
import Derived.Test.YtpmapdialjdcbaaDoorBunebffe6de244d
import Derived.Test.YtpmapdialjdcbaaDoorBunf7d7f948a43b
import Derived.Deep.RegionHeld3
import Derived.Test.YtpmapdialjdcbaaDoorBun3c2751378e6d
namespace Go.Proofs.YtpmapdialjdcbaaDoor.C2
open Go.RowKit

theorem infoU8 : (Tryd.prog.info? 5).map (fun i => (i.zero, i.size, i.bytes)) = some (some (.int .u8 0), 1, 1) := by kernel_rfl
set_option maxHeartbeats 400000 in
theorem put_any (base : Nat) (bv : Value) (xs : List UInt8) (v k : Int) (w : World) (h0 : 0 ≤ k) (h4 : k ≤ 4) (hown : w.ownsRow base 5 1 bv xs.length (cellsU xs)) (hb : base ≤ w.heap.size) (hn : xs.length ≤ 1000000) :
    Calls Tryd.prog 40 #[bv, .int .i64 v, .int .i64 k] w fun e w' => ∃ bv', e = .returned bv' ∧ w'.ownsRow base 5 1 bv' (xs ++ be k.toNat v).length (cellsU (xs ++ be k.toNat v)) ∧ Keeps 5 base w w' := by
  obtain ⟨i0, hi, hz0, hz1, hz2⟩ := info_parts infoU8
  go_enter Tryd.func40, Tryd.ntmps40
  go_wp2
  go_loopw [0, 7] (fun b i wr => ∃ (j : Nat) (ys : List UInt8), j ≤ 4 ∧ i = .int .i64 ((j : Int) - 1) ∧ ys ++ be j v = xs ++ be k.toNat v ∧ wr.ownsRow base 5 1 b ys.length (cellsU ys) ∧ Keeps 5 base w wr)
    (fun _ i _ => (intOf i + 1).toNat)
  case atStart => exact ⟨k.toNat, xs, by omega, by go_num, rfl, hown, Keeps.refl _ _ _⟩
  case round =>
    obtain ⟨j, ys, hj, rfl, hys, hown, hk⟩ := hrel
    have HY : Hid (ys ++ be j v = xs ++ be k.toNat v) := hys
    have hyl : ys.length ≤ 1000004 := by have := be_part hys; omega
    clear hys
    rcases j with _ | j
    · go_wp2
      go_ret
      refine ⟨_, rfl, ?_, hk⟩
      have e : ys = xs ++ be k.toNat v := by simpa [be] using HY.out
      rw [← e]
      exact hown
    · have ej : ((j + 1 : Nat) : Int) - 1 = (j : Int) := by omega
      rw [ej]
      go_wp2_with (at_builtin; refine wpList_append_own _ rfl _ _ 93 rfl base 5 i0 (.int .u8 0) 1 1 Tryd.underlying93 hi hz0 hz1 hz2 rfl (by decide) _ _ _ rfl (hown.alloc _) ⟨wr.heap.size, 0, none⟩ 1 1 [.int .u8 (v / 2 ^ (8 * j) % 256)] rfl rfl ?c1 ?c2 ?c3 ?c4 ?c5 ?_)
      case c1 => exact one_new _ _ _
      case c2 => intro u hu; simp at hu; subst hu; rfl
      case c3 => unfold maxLen; omega
      case c4 => omega
      case c5 => have := hk.size; simp; omega
      intro v' w1 hown' hgrow _
      rw [← cellU_byteN] at hown'
      have hk2 := (hk.alloc (.cells #[.int .u8 (v / 2 ^ (8 * j) % 256)] 5)).trans (Keeps.grown (hown.alloc _) hgrow)
      clear hgrow hown hk
      go_wp2
      go_roundw
      case rel => exact ⟨j, ys ++ [byteN v j], by omega, by go_num, by simpa [be] using HY.out, by simpa [cellsU] using hown', hk2⟩
      case measure => simp [intOf]

def widthOf (o k : Int) : Int := if o = 1 then (if k = 0 then 1 else if k = 1 then 4 else 0) else 1
theorem widthOf_bd (o k : Int) : 0 ≤ widthOf o k ∧ widthOf o k ≤ 4 := by 
  unfold widthOf
  repeat' split
  all_goals omega
def widthsV (o : Int) : Array Value := #[.int .i64 (widthOf o 0), .int .i64 (widthOf o 1), .int .i64 (widthOf o 2)]
theorem widths_any (o : Int) (w : World) : Calls Tryd.prog 62 #[.int .i64 o] w fun e w' => e = .returned (.agg #[.int .i64 (widthOf o 0), .int .i64 (widthOf o 1), .int .i64 (widthOf o 2)]) ∧ w' = w.alloc (.cells #[.int .i64 (widthOf o 0), .int .i64 (widthOf o 1), .int .i64 (widthOf o 2)] 107) := by
  by_cases h : o = 1
  · have h2 : (o == 1) = true := by simp [h]
    have e0 : widthOf o 0 = 1 := by simp [widthOf, h]
    have e1 : widthOf o 1 = 4 := by simp [widthOf, h]
    have e2 : widthOf o 2 = 0 := by simp [widthOf, h]
    rw [e0, e1, e2]
    clear e0 e1 e2 h
    go_enter Tryd.func62, Tryd.ntmps62
    go_wp2
    exact bodyPost_ret (v := .agg #[.int .i64 1, .int .i64 4, .int .i64 0]) (by simp [results, Tryd.results62, go_sem]) rfl ⟨rfl, rfl⟩
  · have h2 : (o == 1) = false := by simp [h]
    have e0 : widthOf o 0 = 1 := by simp [widthOf, h]
    have e1 : widthOf o 1 = 1 := by simp [widthOf, h]
    have e2 : widthOf o 2 = 1 := by simp [widthOf, h]
    rw [e0, e1, e2]
    clear e0 e1 e2 h
    go_enter Tryd.func62, Tryd.ntmps62
    go_wp2
    exact bodyPost_ret (v := .agg #[.int .i64 1, .int .i64 1, .int .i64 1]) (by simp [results, Tryd.results62, go_sem]) rfl ⟨rfl, rfl⟩

/-- an instruction's bytes from an operand on -/
def restB (o a b c : Int) (k : Nat) : List UInt8 :=
  if k = 0 then be (widthOf o 0).toNat a ++ (be (widthOf o 1).toNat b ++ be (widthOf o 2).toNat c)
  else if k = 1 then be (widthOf o 1).toNat b ++ be (widthOf o 2).toNat c
  else if k = 2 then be (widthOf o 2).toNat c else []
def insB (o a b c : Int) : List UInt8 := be 1 o ++ restB o a b c 0
theorem restB_step (o a b c : Int) (k : Nat) (h : k < 3) : restB o a b c k = be (widthOf o k).toNat (fieldAt a b c k) ++ restB o a b c (k + 1) := by
  rcases (by omega : k = 0 ∨ k = 1 ∨ k = 2) with rfl | rfl | rfl <;> simp [restB, fieldAt]
theorem insB_length (o a b c : Int) : (insB o a b c).length ≤ 13 := by
  have h0 := widthOf_bd o 0
  have h1 := widthOf_bd o 1
  have h2 := widthOf_bd o 2
  simp [insB, restB, be_length]
  omega
theorem insB_part {ys xs zs : List UInt8} {o a b c : Int} (h : ys ++ zs = xs ++ insB o a b c) : ys.length ≤ xs.length + 13 := by
  have := congrArg List.length h
  have h2 := insB_length o a b c
  simp at this
  omega
set_option maxHeartbeats 1000000 in
theorem putIns_any (base : Nat) (bv : Value) (xs : List UInt8) (o a b c : Int) (w : World) (hown : w.ownsRow base 5 1 bv xs.length (cellsU xs)) (hb : base ≤ w.heap.size) (hn : xs.length ≤ 900000) :
    Calls Tryd.prog 41 #[bv, .agg #[.int .i64 o, .int .i64 a, .int .i64 b, .int .i64 c]] w fun e w' => ∃ bv', e = .returned bv' ∧ w'.ownsRow base 5 1 bv' (xs ++ insB o a b c).length (cellsU (xs ++ insB o a b c)) ∧ Keeps 5 base w w' := by
  go_enter Tryd.func41, Tryd.ntmps41
  go_wp2_with fail
  refine (put_any base _ xs _ _ _ (by omega) (by omega) (hown.alloc _) (by simp; omega) (by omega)).mono ?_
  rintro e w1 ⟨bv1, rfl, hown1, hk1⟩
  have hk1' := ((Keeps.refl 5 base w).alloc _).trans hk1
  have hg0 : w1.heap[w.heap.size]? = some (.cells #[.int .i64 o, .int .i64 a, .int .i64 b, .int .i64 c] 54 (0, 0)) := hk1.cell (heap_alloc_new w _) (by decide)
  have hz1 : w.heap.size < w1.heap.size := lt_of_block hg0
  have c0 := cell_of_row w1 w.heap.size 0 _ _ _ hg0
  simp at c0
  clear hk1
  go_wp2_with (first | (go_at_call 62; refine (widths_any _ _).mono ?_; rintro e w' ⟨rfl, rfl⟩) | (go_at_call 63; refine (fields_any _ _ _).mono ?_; rintro e w' ⟨rfl, rfl⟩))
  go_loopw [0, 16] (fun bvv i wr => ∃ (k : Nat) (ys : List UInt8), k ≤ 3 ∧ i = .int .i64 k ∧ ys ++ restB o a b c k = xs ++ insB o a b c ∧ wr.ownsRow base 5 1 bvv ys.length (cellsU ys) ∧
      wr.heap[w.heap.size]? = some (.cells #[.int .i64 o, .int .i64 a, .int .i64 b, .int .i64 c] 54 (0, 0)) ∧ wr.heap[w1.heap.size + 1]? = some (.cells #[.int .i64 (widthOf o 0), .int .i64 (widthOf o 1), .int .i64 (widthOf o 2)] 107 (0, 0)) ∧ Keeps 5 base w wr)
    (fun _ i _ => 3 - (intOf i).toNat)
  case atStart =>
    refine ⟨0, _, by omega, rfl, by simp [insB], (((hown1.alloc _).alloc _).alloc _).drew, ?_, ?_, (((hk1'.alloc _).alloc _).alloc _).drew⟩
    · show ((((w1.alloc _).alloc _).alloc _).drew).heap[w.heap.size]? = _
      rw [heap_drew, Below.heap_alloc _ _ _ (by simp; omega), Below.heap_alloc _ _ _ (by simp; omega), Below.heap_alloc _ _ _ hz1]
      exact hg0
    · rw [heap_drew, Below.heap_alloc _ _ _ (by simp)]
      exact heap_alloc2_new _ _ _
  case round =>
    obtain ⟨k, ys, hk, rfl, hys, hown, hb0, hb1, hkk⟩ := hrel
    have HY : Hid (ys ++ restB o a b c k = xs ++ insB o a b c) := hys
    have hyl : ys.length ≤ 900100 := by have := insB_part hys; omega
    have hsz := hkk.size
    clear hys
    rcases (by omega : k = 0 ∨ k = 1 ∨ k = 2 ∨ k = 3) with rfl | rfl | rfl | rfl
    · have hx : ∀ wx : World, (Instr.index 110 (.agg #[.pointer (some ⟨w.heap.size, 1, none⟩), .pointer (some ⟨w.heap.size, 2, none⟩), .pointer (some ⟨w.heap.size, 3, none⟩)]) (.int .i64 0)).run Tryd.prog wx = .ok (.pointer (some ⟨w.heap.size, 1, none⟩)) wx := fun _ => by kernel_rfl
      have c1 := cell_of_row wr w.heap.size 1 _ _ _ hb0
      have c2 := cell_of_row wr (w1.heap.size + 1) 0 _ _ _ hb1
      simp at c1 c2
      have hwb := widthOf_bd o 0
      go_wp2
      go_region_held3 (fun w' => w'.cell? ⟨w.heap.size, 1, none⟩ = some (.int .i64 a) ∧ w'.cell? ⟨w1.heap.size + 1, 0, none⟩ = some (.int .i64 (widthOf o 0))) (first | exact ⟨c1, c2⟩ | (refine ⟨?_, ?_⟩ <;> assumption)) (first | (go_at_call 40; refine (put_any base _ ys _ _ _ hwb.1 hwb.2 hown.drew (by simp; omega) (by omega)).mono ?_; rintro e w2 ⟨bv2, rfl, hown2, hk2⟩; have d0 := hk2.cell hb0 (by decide); have d1 := hk2.cell hb1 (by decide); have cd0 := cell_of_row w2 w.heap.size 1 _ _ _ d0; have cd1 := cell_of_row w2 (w1.heap.size + 1) 0 _ _ _ d1; simp at cd0 cd1))
      go_wp2
      go_roundw
      case rel => exact ⟨1, ys ++ be (widthOf o 0).toNat a, by omega, by go_num, by have h := HY.out; rw [restB_step _ _ _ _ 0 (by omega)] at h; rw [List.append_assoc]; exact h, hown2, d0, d1, (hkk.drew).trans hk2⟩
      case measure => simp [intOf]
    · have hx : ∀ wx : World, (Instr.index 110 (.agg #[.pointer (some ⟨w.heap.size, 1, none⟩), .pointer (some ⟨w.heap.size, 2, none⟩), .pointer (some ⟨w.heap.size, 3, none⟩)]) (.int .i64 1)).run Tryd.prog wx = .ok (.pointer (some ⟨w.heap.size, 2, none⟩)) wx := fun _ => by kernel_rfl
      have c1 := cell_of_row wr w.heap.size 2 _ _ _ hb0
      have c2 := cell_of_row wr (w1.heap.size + 1) 1 _ _ _ hb1
      simp at c1 c2
      have hwb := widthOf_bd o 1
      go_wp2
      go_region_held3 (fun w' => w'.cell? ⟨w.heap.size, 2, none⟩ = some (.int .i64 b) ∧ w'.cell? ⟨w1.heap.size + 1, 1, none⟩ = some (.int .i64 (widthOf o 1))) (first | exact ⟨c1, c2⟩ | (refine ⟨?_, ?_⟩ <;> assumption)) (first | (go_at_call 40; refine (put_any base _ ys _ _ _ hwb.1 hwb.2 hown.drew (by simp; omega) (by omega)).mono ?_; rintro e w2 ⟨bv2, rfl, hown2, hk2⟩; have d0 := hk2.cell hb0 (by decide); have d1 := hk2.cell hb1 (by decide); have cd0 := cell_of_row w2 w.heap.size 2 _ _ _ d0; have cd1 := cell_of_row w2 (w1.heap.size + 1) 1 _ _ _ d1; simp at cd0 cd1))
      go_wp2
      go_roundw
      case rel => exact ⟨2, ys ++ be (widthOf o 1).toNat b, by omega, by go_num, by have h := HY.out; rw [restB_step _ _ _ _ 1 (by omega)] at h; rw [List.append_assoc]; exact h, hown2, d0, d1, (hkk.drew).trans hk2⟩
      case measure => simp [intOf]
    · have hx : ∀ wx : World, (Instr.index 110 (.agg #[.pointer (some ⟨w.heap.size, 1, none⟩), .pointer (some ⟨w.heap.size, 2, none⟩), .pointer (some ⟨w.heap.size, 3, none⟩)]) (.int .i64 2)).run Tryd.prog wx = .ok (.pointer (some ⟨w.heap.size, 3, none⟩)) wx := fun _ => by kernel_rfl
      have c1 := cell_of_row wr w.heap.size 3 _ _ _ hb0
      have c2 := cell_of_row wr (w1.heap.size + 1) 2 _ _ _ hb1
      simp at c1 c2
      have hwb := widthOf_bd o 2
      go_wp2
      go_region_held3 (fun w' => w'.cell? ⟨w.heap.size, 3, none⟩ = some (.int .i64 c) ∧ w'.cell? ⟨w1.heap.size + 1, 2, none⟩ = some (.int .i64 (widthOf o 2))) (first | exact ⟨c1, c2⟩ | (refine ⟨?_, ?_⟩ <;> assumption)) (first | (go_at_call 40; refine (put_any base _ ys _ _ _ hwb.1 hwb.2 hown.drew (by simp; omega) (by omega)).mono ?_; rintro e w2 ⟨bv2, rfl, hown2, hk2⟩; have d0 := hk2.cell hb0 (by decide); have d1 := hk2.cell hb1 (by decide); have cd0 := cell_of_row w2 w.heap.size 3 _ _ _ d0; have cd1 := cell_of_row w2 (w1.heap.size + 1) 2 _ _ _ d1; simp at cd0 cd1))
      go_wp2
      go_roundw
      case rel => exact ⟨3, ys ++ be (widthOf o 2).toNat c, by omega, by go_num, by have h := HY.out; rw [restB_step _ _ _ _ 2 (by omega)] at h; rw [List.append_assoc]; exact h, hown2, d0, d1, (hkk.drew).trans hk2⟩
      case measure => simp [intOf]
    · go_wp2
      go_ret
      have e : ys = xs ++ insB o a b c := by simpa [restB] using HY.out
      exact ⟨_, rfl, by rw [← e]; exact hown, hkk⟩
end Go.Proofs.YtpmapdialjdcbaaDoor.C2
namespace Go.Proofs.YtpmapdialjdcbaaDoor.C2
open Go.RowKit

set_option maxHeartbeats 400000 in
theorem big_any (fs : List (List In)) (fv : Value) (futs depth fuel : Int) (w : World) (hF : SlF w fv fs) (hn : fs.length ≤ 1000000) (hm : ∀ f ∈ fs, f.length ≤ 1000000) :
    Calls Tryd.prog 38 #[.agg #[fv, .int .i64 futs, .int .i64 depth, .int .i64 fuel]] w fun e w' => e = .returned (.bool (bigB fs)) ∧ w' = w.alloc (.cells #[fv, .int .i64 futs, .int .i64 depth, .int .i64 fuel] 24) := by
  obtain ⟨ad, cap, rfl, hx⟩ := hF
  by_cases h12 : 12 < fs.length
  · have e : bigB fs = true := by simp [bigB, h12]
    rw [e]
    clear e
    go_enter Tryd.func38, Tryd.ntmps38
    go_wp2
    go_ret
    exact ⟨rfl, rfl⟩
  · have hd : decide ((12 : Int) < (fs.length : Int)) = false := by simp; omega
    go_enter Tryd.func38, Tryd.ntmps38
    go_wp2
    go_loop [12] (fun i => ∃ k : Nat, k ≤ fs.length ∧ i = .int .i64 k ∧ ∀ j (h : j < fs.length), j < k → ¬ 40 < fs[j].length) (fun i => fs.length - (intOf i).toNat)
    case atStart => exact ⟨0, by omega, rfl, by omega⟩
    case round =>
      obtain ⟨k, hk, rfl, hall⟩ := hrel
      by_cases hlt : k < fs.length
      · obtain ⟨g, f, u, rfl, hc, ad', cap', rfl, -⟩ := hx k hlt
        have hm' := hm _ (List.getElem_mem hlt)
        have hgl : g < w.heap.size := block_lt_of_cell hc
        by_cases h40 : 40 < fs[k].length
        · go_wp2
          go_ret
          exact ⟨ret_bool (big_at hlt h40).symm, rfl⟩
        · go_wp2
          go_round
          case rel => exact ⟨k + 1, by omega, by go_num, fun j h hj => by rcases (by omega : j < k ∨ j = k) with h' | rfl; exact hall j h h'; exact h40⟩
          case measure => simp [intOf]; omega
      · go_wp2
        go_ret
        exact ⟨ret_bool (big_not h12 fun j h => hall j h (by omega)).symm, rfl⟩

theorem bcell {W w1 : World} (hb : Below W.heap.size W w1) : (∀ b o, b < W.heap.size → w1.cell? ⟨b, o, none⟩ = W.cell? ⟨b, o, none⟩) ∧ (∀ b o, b < W.heap.size → w1.frozen? ⟨b, o, none⟩ = W.frozen? ⟨b, o, none⟩) :=
  ⟨fun b o h => hb.cell (p := ⟨b, o, none⟩) h, fun b o h => hb.frozen (p := ⟨b, o, none⟩) h⟩
theorem box_prog (w : World) (fv : Value) (futs depth fuel : Int) {wr : World} (h : Below (w.heap.size + 1) (w.alloc (.cells #[fv, .int .i64 futs, .int .i64 depth, .int .i64 fuel] 24)) wr) :
    wr.cell? ⟨w.heap.size, 0, none⟩ = some fv ∧ wr.cell? ⟨w.heap.size, 1, none⟩ = some (.int .i64 futs) ∧ wr.cell? ⟨w.heap.size, 2, none⟩ = some (.int .i64 depth) ∧ wr.cell? ⟨w.heap.size, 3, none⟩ = some (.int .i64 fuel) := by
  refine ⟨?_, ?_, ?_, ?_⟩ <;> rw [h.cell (by simp)] <;> simp
theorem sound_no {p : Pr} {k j : Nat} (h : k < p.fs.length) (h2 : j < p.fs[k].length) (h3 : shapeI p.fs[k][j] = false) : soundB p = false := by
  have : (p.fs.all fun f => f.all shapeI) = false := by
    rw [List.all_eq_false]
    refine ⟨p.fs[k], List.getElem_mem h, ?_⟩
    rw [Bool.not_eq_true, List.all_eq_false]
    exact ⟨_, List.getElem_mem h2, by simp [h3]⟩
  simp [soundB, this]
theorem sound_yes {p : Pr} (h : ∀ k (h : k < p.fs.length) j (h2 : j < p.fs[k].length), shapeI p.fs[k][j] = true) : soundB p = (inB p.futs 0 16 && inB p.depth 0 5 && inB p.fuel 1 500) := by
  have : (p.fs.all fun f => f.all shapeI) = true := by
    rw [List.all_eq_true]
    intro f hf
    obtain ⟨k, hk, rfl⟩ := List.getElem_of_mem hf
    rw [List.all_eq_true]
    intro i hi
    obtain ⟨j, hj, rfl⟩ := List.getElem_of_mem hi
    exact h k hk j hj
  simp [soundB, this]
set_option maxHeartbeats 1000000 in
theorem sound_any (p : Pr) (fv : Value) (w : World) (hT : Tab w) (hF : SlF w fv p.fs) (hn : p.fs.length ≤ 1000000) (hm : ∀ f ∈ p.fs, f.length ≤ 1000000) :
    Calls Tryd.prog 39 #[.agg #[fv, .int .i64 p.futs, .int .i64 p.depth, .int .i64 p.fuel]] w fun e w' => e = .returned (.bool (soundB p)) ∧ Below w.heap.size w w' := by
  have hb1 : Below w.heap.size w (w.alloc (.cells #[fv, .int .i64 p.futs, .int .i64 p.depth, .int .i64 p.fuel] 24)) := (Below.refl _ _).alloc (Nat.le_refl _) _
  have hF1 := hF.still (still_of_below hb1)
  have hT1 := hT.below hb1
  obtain ⟨ad, cap, rfl, -⟩ := hF
  go_enter Tryd.func39, Tryd.ntmps39
  go_wp2
  go_loopw [10] (fun i wr => ∃ k : Nat, k ≤ p.fs.length ∧ i = .int .i64 k ∧ (∀ k' (h : k' < p.fs.length) j (h2 : j < p.fs[k'].length), k' < k → shapeI p.fs[k'][j] = true) ∧ Below (w.heap.size + 1) (w.alloc (.cells #[.slice ad p.fs.length cap, .int .i64 p.futs, .int .i64 p.depth, .int .i64 p.fuel] 24)) wr) (fun i _ => p.fs.length - (intOf i).toNat)
  case atStart => exact ⟨0, by omega, rfl, by omega, Below.refl _ _⟩
  case round =>
    obtain ⟨k, hk, rfl, hall, hB⟩ := hrel
    have hB' : Below (w.alloc (.cells #[.slice ad p.fs.length cap, .int .i64 p.futs, .int .i64 p.depth, .int .i64 p.fuel] 24)).heap.size (w.alloc (.cells #[.slice ad p.fs.length cap, .int .i64 p.futs, .int .i64 p.depth, .int .i64 p.fuel] 24)) wr := by simpa using hB
    have hFr := hF1.still (still_of_below hB')
    by_cases hlt : k < p.fs.length
    · obtain ⟨ad1, cap1, he, hx⟩ := hFr
      obtain ⟨rfl, rfl⟩ : ad1 = ad ∧ cap1 = cap := by simp at he; exact ⟨he.1.symm, he.2.symm⟩
      clear he
      obtain ⟨g, f, u, rfl, hc, ad', cap', rfl, hI⟩ := hx k hlt
      have hm' := hm _ (List.getElem_mem hlt)
      clear hx
      obtain ⟨W, rfl⟩ : ∃ W, W = wr := ⟨wr, rfl⟩
      go_wp2
      go_loopw [16] (fun i wi => ∃ j : Nat, j ≤ p.fs[k].length ∧ i = .int .i64 j ∧ (∀ j' (h2 : j' < p.fs[k].length), j' < j → shapeI p.fs[k][j'] = true) ∧ Below W.heap.size W wi) (fun i _ => p.fs[k].length - (intOf i).toNat)
      case atStart => exact ⟨0, by omega, rfl, by omega, Below.refl _ _⟩
      case round =>
        obtain ⟨j, hj, rfl, hallj, hBi⟩ := hrel
        have hTi : Tab wr := hT1.below (hB'.trans (hBi.mono hB'.size))
        by_cases hjl : j < p.fs[k].length
        · obtain ⟨g', f', rfl, hA⟩ := hI j hjl
          obtain ⟨c0, c1, c2, c3⟩ := hA.still (still_of_below hBi)
          have hgl : g' < wr.heap.size := block_lt_of_cell c0
          have hTa : Tab (wr.alloc (.cells #[.int .i64 p.fs[k][j].o, .int .i64 p.fs[k][j].a, .int .i64 p.fs[k][j].b, .int .i64 p.fs[k][j].c] 54)) := hTi.below ((Below.refl _ _).alloc (Nat.le_refl _) _)
          by_cases hs : shapeI p.fs[k][j] = true
          · have hs' : shapeB p.fs[k][j].o p.fs[k][j].a p.fs[k][j].b p.fs[k][j].c = true := hs
            go_wp2_with (go_at_call 60; refine (shape_any _ _ _ _ _ hTa).mono ?_; rintro e w2 ⟨rfl, hb2⟩)
            go_roundw
            case rel => exact ⟨j + 1, by omega, by go_num, fun j' h hj' => by rcases (by omega : j' < j ∨ j' = j) with h' | rfl; exact hallj j' h h'; exact hs, (hBi.alloc hBi.size _).trans (hb2.mono (by have := hBi.size; simp; omega))⟩
            case measure => simp [intOf]; omega
          · rw [Bool.not_eq_true] at hs
            have hs' : shapeB p.fs[k][j].o p.fs[k][j].a p.fs[k][j].b p.fs[k][j].c = false := hs
            go_wp2_with (go_at_call 60; refine (shape_any _ _ _ _ _ hTa).mono ?_; rintro e w2 ⟨rfl, hb2⟩)
            go_ret
            exact ⟨ret_bool (sound_no hlt hjl hs).symm, hb1.trans ((hB.mono (by omega)).trans (((hBi.alloc hBi.size _).trans (hb2.mono (by have := hBi.size; simp; omega))).mono (by have := hB'.size; simp at this; omega)))⟩
        · go_wp2
          go_roundw
          case rel => exact ⟨k + 1, by omega, by go_num, fun k' h j' h2 hk' => by rcases (by omega : k' < k ∨ k' = k) with h' | rfl; exact hall k' h j' h2 h'; exact hallj j' h2 (by omega), hB.trans (hBi.mono (by have := hB'.size; simp at this; omega))⟩
          case measure => simp [intOf]; omega
    · have e := sound_yes (p := p) fun k' h j h2 => hall k' h j h2 (by omega)
      have E : Hid (soundB p = (inB p.futs 0 16 && inB p.depth 0 5 && inB p.fuel 1 500)) := e
      clear e
      obtain ⟨-, c1, c2, c3⟩ := box_prog w _ _ _ _ hB
      cases a1 : inB p.futs 0 16
      · go_wp2_with (go_at_call 61; refine (within_any _ _ _ _).mono ?_; rintro e w' ⟨rfl, rfl⟩)
        go_ret
        exact ⟨ret_bool (by rw [E.out, a1]; rfl), hb1.trans (hB.mono (by omega))⟩
      · cases a2 : inB p.depth 0 5
        · go_wp2_with (go_at_call 61; refine (within_any _ _ _ _).mono ?_; rintro e w' ⟨rfl, rfl⟩)
          go_ret
          exact ⟨ret_bool (by rw [E.out, a1, a2]; rfl), hb1.trans (hB.mono (by omega))⟩
        · cases a3 : inB p.fuel 1 500
          · go_wp2_with (go_at_call 61; refine (within_any _ _ _ _).mono ?_; rintro e w' ⟨rfl, rfl⟩)
            go_ret
            exact ⟨ret_bool (by rw [E.out, a1, a2, a3]; rfl), hb1.trans (hB.mono (by omega))⟩
          · go_wp2_with (go_at_call 61; refine (within_any _ _ _ _).mono ?_; rintro e w' ⟨rfl, rfl⟩)
            go_ret
            exact ⟨ret_bool (by rw [E.out, a1, a2, a3]; rfl), hb1.trans (hB.mono (by omega))⟩
end Go.Proofs.YtpmapdialjdcbaaDoor.C2
