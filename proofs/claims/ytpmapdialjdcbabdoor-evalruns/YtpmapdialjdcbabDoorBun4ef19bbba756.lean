/-
  Helpers: C2Ref3, C2Ref4, V5Vr, V5Vs, V5Vt, V5SpP.
-/
import Derived.Test.YtpmapdialjdcbabDoorBun961034e050c4
import Derived.Deep.RegionHeld3
import Derived.Deep.RegionLaw
import Derived.Test.YtpmapdialjdcbabDoorBun83a4db5a181c
import Derived.Test.YtpmapdialjdcbabDoorBun2560a644c5a3
import Derived.Test.YtpmapdialjdcbabDoorBun0b01e8d12ed5
namespace Go.Proofs.YtpmapdialjdcbabDoor.C2
open Go.RowKit

theorem boxed_one (w : World) (o a b c : Int) : Boxed (w.alloc (.cells #[.int .i64 o, .int .i64 a, .int .i64 b, .int .i64 c] 54)) w.heap.size o a b c := by
  constructor <;> simp
theorem Boxed.kept {w w' : World} {g : Nat} {o a b c : Int} (h : Boxed w g o a b c) (hb : Below w.heap.size w w') : Boxed w' g o a b c :=
  have st := still_of_below hb
  ⟨st _ _ h.c0, st _ _ h.c1, st _ _ h.c2, st _ _ h.c3⟩
theorem conv_cells {P : Program} {w : World} {G : Nat} {l : List UInt8} {s d : TypeId} (h : ∀ j (hj : j < l.length), w.cell? ⟨G, j, none⟩ = some (.int .u8 (l[j].toNat : Int))) (n cp : Nat) (hn : n = l.length)
    (hs : P.underlying s = some (.slice 5)) (he : P.underlying 5 = some (.int .u8)) (hd : P.underlying d = some .string) :
    (convert s d (.slice (some ⟨G, 0, none⟩) n cp)).run P w = .ok (.string (strB l)) w := by
  subst hn
  rw [run_convert_bytes_string w s d 5 _ _ _ hs he hd]
  have hl : (loadCells ⟨G, 0, none⟩ l.length).run P w = .ok ((l.map fun x => (x.toNat : Int)).map (Value.int .u8)).toArray w := by
    have e2 : (l.map fun x => (x.toNat : Int)).map (Value.int .u8) = cellsU l := by simp [cellsU, cellU, Function.comp_def]
    have e1 : (cellsU l).length = l.length := by simp [cellsU]
    have h2 := run_loadCells_list (P := P) (w := w) ⟨G, 0, none⟩ (cellsU l) fun j v hv => by
      have hj : j < l.length := by rw [← e1]; exact (List.getElem?_eq_some_iff.1 hv).1
      have e : (⟨G, 0, none⟩ : Addr).add j = ⟨G, j, none⟩ := by unfold Addr.add; split <;> simp_all
      rw [e, h j hj, ← hv]
      simp [cellsU, cellU, hj]
    rw [e1] at h2
    rw [h2, e2]
  rw [run_bytesToString w _ _ _ _ hl, push_fold]
  simp [strB, ByteArray.empty, ByteArray.emptyWithCapacity]
  rfl
/-- a new row of bytes, read as a string -/
theorem conv_new (w : World) (l : List UInt8) (cs : Array Value) (hc : cs = (cellsU l).toArray) (n : Nat) (hn : n = l.length) : (convert 86 9 (.slice (some ⟨w.heap.size, 0, none⟩) n n)).run Tryd.prog (w.alloc (.cells cs 5)) = .ok (.string (strB l)) (w.alloc (.cells cs 5)) := by
  refine conv_cells (fun j hj => ?_) n n hn Tryd.underlying86 Tryd.underlying5 Tryd.underlying9
  rw [cell_of_row _ _ _ _ _ _ (heap_alloc_new w _), hc]
  simp [cellsU, cellU, hj]
theorem conv_drew (w : World) (l : List UInt8) (cs : Array Value) (hc : cs = (cellsU l).toArray) (n : Nat) (hn : n = l.length) : (convert 86 9 (.slice (some ⟨w.heap.size, 0, none⟩) n n)).run Tryd.prog (w.alloc (.cells cs 5)).drew = .ok (.string (strB l)) (w.alloc (.cells cs 5)).drew := by
  refine conv_cells (fun j hj => ?_) n n hn Tryd.underlying86 Tryd.underlying5 Tryd.underlying9
  show (w.alloc (.cells cs 5)).cell? _ = _
  rw [cell_of_row _ _ _ _ _ _ (heap_alloc_new w _), hc]
  simp [cellsU, cellU, hj]
theorem conv_kept (w w2 : World) (l : List UInt8) (cs : Array Value) (hc : cs = (cellsU l).toArray) (n : Nat) (hn : n = l.length) (hb : Below (w.alloc (.cells cs 5)).drew.heap.size (w.alloc (.cells cs 5)).drew w2) : (convert 86 9 (.slice (some ⟨w.heap.size, 0, none⟩) n n)).run Tryd.prog w2 = .ok (.string (strB l)) w2 := by
  refine conv_cells (fun j hj => ?_) n n hn Tryd.underlying86 Tryd.underlying5 Tryd.underlying9
  refine still_of_below hb _ _ ?_
  show (w.alloc (.cells cs 5)).cell? _ = _
  rw [cell_of_row _ _ _ _ _ _ (heap_alloc_new w _), hc]
  simp [cellsU, cellU, hj]
theorem strB_append (a b : List UInt8) : strB a ++ strB b = strB (a ++ b) := by
  apply WideShapes.bytes_inj
  simp [strB, ByteArray.data_append]
theorem ret_cat (a b : List UInt8) : Ending.returned (.string (strB a ++ strB b)) = .returned (.string (strB (a ++ b))) := by rw [strB_append]
theorem wrap_u8 (v : Int) : IntKind.u8.wrap v = v % 256 := by simp [IntKind.wrap, IntKind.bits, IntKind.signed]
theorem byte0 (v : Int) : cellU (byteN v 0) = .int .u8 (v % 256) := by rw [cellU_byteN]; simp
theorem byte1 (v : Int) : cellU (byteN v 1) = .int .u8 (v / 256 % 256) := by rw [cellU_byteN]; rfl
theorem byte2 (v : Int) : cellU (byteN v 2) = .int .u8 (v / 65536 % 256) := by rw [cellU_byteN]; rfl
theorem byte3 (v : Int) : cellU (byteN v 3) = .int .u8 (v / 16777216 % 256) := by rw [cellU_byteN]; rfl
theorem be1 (v : Int) : be 1 v = [byteN v 0] := rfl
theorem be2 (v : Int) : be 2 v = [byteN v 1, byteN v 0] := rfl
theorem be4 (v : Int) : be 4 v = [byteN v 3, byteN v 2, byteN v 1, byteN v 0] := rfl
theorem insB_const (o a b c : Int) (h : o = 1) : insB o a b c = be 1 o ++ be 1 a ++ be 4 b := by
  subst h
  simp [insB, restB, widthOf, be]
theorem insB_other (o a b c : Int) (h : ¬ o = 1) : insB o a b c = be 1 o ++ be 1 a ++ be 1 b ++ be 1 c := by
  simp [insB, restB, widthOf, h]
end Go.Proofs.YtpmapdialjdcbabDoor.C2
namespace Go.Proofs.YtpmapdialjdcbabDoor.C2
open Go.RowKit

def hdrB (p : Pr) : Bool := inB p.futs 0 16 && inB p.depth 0 5 && inB p.fuel 1 500
theorem hdr_no {p : Pr} (h : hdrB p = false) : soundB p = false := by
  unfold soundB
  unfold hdrB at h
  rw [h]
  simp
theorem mgp_head (p : Pr) : (⟨#[77, 71, 80]⟩ : ByteArray) ++ strB (be 1 p.futs ++ be 1 p.depth ++ be 2 p.fuel ++ be 1 p.fs.length) = strB (headB p) := by
  have : (⟨#[77, 71, 80]⟩ : ByteArray) = strB [77, 71, 80] := rfl
  rw [this, strB_append]
  simp [headB]
def RPutPost (p : Pr) (w : World) (e : Ending) (w' : World) : Prop := e = .returned (.tuple #[.string (strB (putT p)), .int .i64 (putE p)]) ∧ Below w.heap.size w w'
theorem rput_big {p : Pr} {w w' : World} (h : bigB p.fs = true) (hb : Below w.heap.size w w') : RPutPost p w (.returned (.tuple #[.string ⟨#[]⟩, .int .i64 2])) w' := by
  refine ⟨?_, hb⟩
  simp [putT, putE, h, strB]
theorem rput_arg {p : Pr} {w w' : World} (h : bigB p.fs = false) (h2 : soundB p = false) (hb : Below w.heap.size w w') : RPutPost p w (.returned (.tuple #[.string ⟨#[]⟩, .int .i64 1])) w' := by
  refine ⟨?_, hb⟩
  simp [putT, putE, h, h2, strB]
theorem rput_ok {p : Pr} {w w' : World} {S : ByteArray} (hS : S = strB (putB p)) (h : bigB p.fs = false) (h2 : soundB p = true) (hb : Below w.heap.size w w') : RPutPost p w (.returned (.tuple #[.string S, .int .i64 0])) w' := by
  refine ⟨?_, hb⟩
  rw [hS]
  simp [putT, putE, h, h2]
end Go.Proofs.YtpmapdialjdcbabDoor.C2
namespace Go.Proofs.YtpmapdialjdcbabDoor.V5
open Go.RowKit
open C2 (In Pr SlF SlI InsAt Tab BoxedP below_alloc below_then still_of_below Still putE)

end Go.Proofs.YtpmapdialjdcbabDoor.V5
namespace Go.Proofs.YtpmapdialjdcbabDoor.V5
open Go.RowKit
open C2 (In Pr SlF SlI InsAt Tab BoxedP below_alloc below_then still_of_below Still putE)

theorem own_slN {w : World} {base : Nat} {v : Value} {xs : List Int} (h : w.ownsRow base 3 1 v xs.length (xs.map numV)) : SlN w v xs := by
  rcases h.2 with ⟨rfl, h0⟩ | ⟨g, cap, cur, rfl, hb, hg, hn, hc, hs, ht⟩
  · obtain rfl : xs = [] := List.eq_nil_of_length_eq_zero h0
    exact ⟨none, 0, rfl, fun k hk => by simp at hk⟩
  · refine ⟨some ⟨g, 0, none⟩, cap, rfl, fun k hk => ⟨g, 0, rfl, ?_⟩⟩
    rw [Nat.zero_add, h.cellAt k (by omega)]
    simp [hk, numV]
end Go.Proofs.YtpmapdialjdcbabDoor.V5
namespace Go.Proofs.YtpmapdialjdcbabDoor.V5
open Go.RowKit
open C2 (In Pr SlF SlI InsAt Tab BoxedP below_alloc below_then still_of_below Still putE)

theorem fn_bad {nf futs : Int} {f : List In} (h : fnB nf futs f = false) {p : Pr} {i : Nat} (hi : i < p.fs.length) (e : p.fs[i] = f) (h0 : putE p = 0) (h1 : nf = p.fs.length) (h2 : futs = p.futs) : checkF p = 5 := by
  subst e h1 h2
  unfold checkF
  rw [if_pos h0, if_neg]
  rintro ⟨-, ha⟩
  have := List.all_eq_true.1 ha _ (List.getElem_mem hi)
  rw [h] at this
  simp at this
theorem fn_good {p : Pr} (h0 : putE p = 0) (h1 : 0 < p.fs.length) (h : ∀ i (hi : i < p.fs.length), fnB p.fs.length p.futs p.fs[i] = true) : checkF p = 0 := by
  unfold checkF
  rw [if_pos h0, if_pos]
  refine ⟨h1, List.all_eq_true.2 fun f hf => ?_⟩
  obtain ⟨i, hi, rfl⟩ := List.getElem_of_mem hf
  exact h i hi
theorem fn_short {nf futs : Int} {f : List In} (h : f.length = 0) : fnB nf futs f = false := by
  unfold fnB
  rw [decide_eq_false (by omega), Bool.false_and]
theorem fn_last {nf futs : Int} {f : List In} (h7 : ¬ lastOp f = 7) (h15 : ¬ lastOp f = 15) : fnB nf futs f = false := by
  unfold fnB endB
  rw [decide_eq_false h7, decide_eq_false h15]
  simp
theorem fn_right {nf futs : Int} {f : List In} {k : Nat} (hk : k < f.length) (h : rightB nf futs f.length f[k] = false) : fnB nf futs f = false := by
  unfold fnB
  have : f.all (rightB nf futs f.length) = false := by
    rw [List.all_eq_false]
    exact ⟨_, List.getElem_mem hk, by rw [h]; simp⟩
  rw [this]
  simp
theorem fn_all {nf futs : Int} {f : List In} (h0 : 0 < f.length) (he : endB f = true) (h : ∀ k (hk : k < f.length), rightB nf futs f.length f[k] = true) : fnB nf futs f = true := by
  unfold fnB
  rw [decide_eq_true h0, he, List.all_eq_true.2]
  · rfl
  · intro x hx
    obtain ⟨k, hk, rfl⟩ := List.getElem_of_mem hx
    exact h k hk
end Go.Proofs.YtpmapdialjdcbabDoor.V5
namespace Go.Proofs.YtpmapdialjdcbabDoor.V5
open Go.RowKit
open C2 (In Pr putE OkPr okFn okIns shapeI shapeB Good)

theorem ok_right {nf futs n : Int} {x : In} (h : okIns nf futs n x) : rightB nf futs n x = true := by
  rw [right_iff]
  unfold okIns at h
  rcases h with h | h | h | h | h | h | h | h | h | h | h <;> refine ⟨?_, ?_, ?_, ?_, ?_⟩ <;> intro e <;> omega
theorem lastOp_of {f : List In} {x : In} (h : f.getLast? = some x) : lastOp f = x.o := by unfold lastOp; rw [h]
theorem ok_check {p : Pr} (h : OkPr p) : checkF p = 0 := by
  refine fn_good h.good.code (by have := h.some; omega) fun i hi => ?_
  have hf := h.fns _ (List.getElem_mem hi)
  obtain ⟨h2, h11, hx, a, ha, hb, hl⟩ := hf
  refine fn_all (by omega) ?_ fun k hk => ok_right (hx _ (List.getElem_mem hk))
  unfold endB
  rw [lastOp_of hl]
  rfl
theorem good_set {p : Pr} (h : OkPr p) {i k : Nat} (hi : i < p.fs.length) {x : In} (hx : shapeI x = true) : putE ⟨p.fs.set i (p.fs[i].set k x), p.futs, p.depth, p.fuel⟩ = 0 := by
  have hg := h.good
  refine Good.code ⟨by simp; exact hg.few, fun f hf => ?_, fun f hf => ?_, hg.futs, hg.depth, hg.fuel⟩
  · rcases List.mem_or_eq_of_mem_set hf with hf | rfl
    · exact hg.small f hf
    · simp; exact hg.small _ (List.getElem_mem hi)
  · rcases List.mem_or_eq_of_mem_set hf with hf | rfl
    · exact hg.shapes f hf
    · rw [List.all_eq_true]
      intro y hy
      rcases List.mem_or_eq_of_mem_set hy with hy | rfl
      · exact List.all_eq_true.1 (hg.shapes _ (List.getElem_mem hi)) y hy
      · exact hx
theorem spoil {p : Pr} (h : OkPr p) {i k : Nat} (hi : i < p.fs.length) {x : In} (hx : shapeI x = true) (hb : fnB p.fs.length p.futs (p.fs[i].set k x) = false) : checkF ⟨p.fs.set i (p.fs[i].set k x), p.futs, p.depth, p.fuel⟩ = 5 :=
  fn_bad (p := ⟨p.fs.set i (p.fs[i].set k x), p.futs, p.depth, p.fuel⟩) (i := i) hb (by simpa using hi) (by simp) (good_set h hi hx) (by simp) rfl
theorem set_right {nf futs : Int} {f : List In} {k : Nat} {x : In} (hk : k < f.length) (h : rightB nf futs f.length x = false) : fnB nf futs (f.set k x) = false :=
  fn_right (k := k) (by simpa using hk) (by simpa using h)
theorem shape_bd {o a b c : Int} (h1 : 1 ≤ o) (h2 : o ≤ 15) (ho : ¬ o = 1) (ha : 0 ≤ a ∧ a ≤ C2.lastOf o 0) (hb : 0 ≤ b ∧ b ≤ C2.lastOf o 1) (hc : 0 ≤ c ∧ c ≤ C2.lastOf o 2) : shapeI ⟨o, a, b, c⟩ = true := by
  obtain ⟨g0, g1, g2⟩ := C2.last0 o h1 h2 ho
  exact C2.shape_mk h1 h2 (by rw [g0]; exact ha) (by rw [g1]; exact hb) (by rw [g2]; exact hc)
/-- the last one yields -/
theorem sp0 {p : Pr} (h : OkPr p) {i m : Nat} (hi : i < p.fs.length) (hm : p.fs[i].length = m + 1) : checkF ⟨p.fs.set i (p.fs[i].set m ⟨14, 0, 0, 0⟩), p.futs, p.depth, p.fuel⟩ = 5 := by
  refine spoil h hi (by decide +kernel) ?_
  have e : lastOp (p.fs[i].set m ⟨14, 0, 0, 0⟩) = 14 := by
    rw [lastOp_at (by simp; omega)]
    simp [hm]
  exact fn_last (by rw [e]; decide) (by rw [e]; decide)
theorem last7 : C2.lastOf 7 0 = 39 ∧ C2.lastOf 7 1 = 0 ∧ C2.lastOf 7 2 = 0 ∧ C2.lastOf 8 0 = 7 ∧ C2.lastOf 8 1 = 39 ∧ C2.lastOf 8 2 = 0 ∧ C2.lastOf 9 0 = 3 ∧ C2.lastOf 9 1 = 11 ∧ C2.lastOf 9 2 = 7 ∧ C2.lastOf 11 0 = 15 ∧ C2.lastOf 11 1 = 7 ∧ C2.lastOf 11 2 = 0 := by decide +kernel
theorem sp1 {p : Pr} (h : OkPr p) {i : Nat} (hi : i < p.fs.length) : checkF ⟨p.fs.set i (p.fs[i].set 0 ⟨7, p.fs[i].length, 0, 0⟩), p.futs, p.depth, p.fuel⟩ = 5 := by
  have hf := h.fns _ (List.getElem_mem hi)
  obtain ⟨l0, l1, l2, -⟩ := last7
  have h1 := hf.1
  have h2 := hf.2.1
  refine spoil h hi (shape_bd (by decide) (by decide) (by decide) (by rw [l0]; omega) (by rw [l1]; omega) (by rw [l2]; omega)) (set_right (by omega) ?_)
  simp [rightB]
theorem sp2 {p : Pr} (h : OkPr p) {i : Nat} (hi : i < p.fs.length) : checkF ⟨p.fs.set i (p.fs[i].set 0 ⟨8, 0, p.fs[i].length, 0⟩), p.futs, p.depth, p.fuel⟩ = 5 := by
  have hf := h.fns _ (List.getElem_mem hi)
  obtain ⟨-, -, -, l0, l1, l2, -⟩ := last7
  have h1 := hf.1
  have h2 := hf.2.1
  refine spoil h hi (shape_bd (by decide) (by decide) (by decide) (by rw [l0]; omega) (by rw [l1]; omega) (by rw [l2]; omega)) (set_right (by omega) ?_)
  simp [rightB]
theorem sp3 {p : Pr} (h : OkPr p) {i : Nat} (hi : i < p.fs.length) : checkF ⟨p.fs.set i (p.fs[i].set 0 ⟨9, 0, p.fs.length, 0⟩), p.futs, p.depth, p.fuel⟩ = 5 := by
  have hf := h.fns _ (List.getElem_mem hi)
  obtain ⟨-, -, -, -, -, -, l0, l1, l2, -⟩ := last7
  have h1 := hf.1
  have h2 := h.few
  refine spoil h hi (shape_bd (by decide) (by decide) (by decide) (by rw [l0]; omega) (by rw [l1]; omega) (by rw [l2]; omega)) (set_right (by omega) ?_)
  simp [rightB]
theorem sp4 {p : Pr} (h : OkPr p) {i : Nat} (hi : i < p.fs.length) : checkF ⟨p.fs.set i (p.fs[i].set 0 ⟨11, p.futs, 0, 0⟩), p.futs, p.depth, p.fuel⟩ = 5 := by
  have hf := h.fns _ (List.getElem_mem hi)
  obtain ⟨-, -, -, -, -, -, -, -, -, l0, l1, l2⟩ := last7
  have h1 := hf.1
  have h2 := h.futs
  refine spoil h hi (shape_bd (by decide) (by decide) (by decide) (by rw [l0]; omega) (by rw [l1]; omega) (by rw [l2]; omega)) (set_right (by omega) ?_)
  simp [rightB]
theorem put_unsound {p : Pr} (h1 : C2.bigB p.fs = false) (h2 : C2.soundB p = false) : checkF p = 1 := by
  have e : putE p = 1 := by unfold C2.putE; simp [h1, h2]
  rw [check_put (by omega), e]
theorem sp5 {p : Pr} (h : OkPr p) {i k : Nat} (hi : i < p.fs.length) (hk : k < p.fs[i].length) (a b c : Int) : checkF ⟨p.fs.set i (p.fs[i].set k ⟨16, a, b, c⟩), p.futs, p.depth, p.fuel⟩ = 1 := by
  have hg := h.good
  refine put_unsound (C2.big_not (by simp; have := hg.few; omega) fun j hj => ?_) ?_
  · have hj' : j < p.fs.length := by simpa using hj
    have hs := hg.small _ (List.getElem_mem hj')
    by_cases e : i = j
    · subst e; simp; omega
    · simp [e]; omega
  · have hn : ((p.fs.set i (p.fs[i].set k ⟨16, a, b, c⟩)).all fun f => f.all shapeI) = false := by
      rw [List.all_eq_false]
      refine ⟨p.fs[i].set k ⟨16, a, b, c⟩, List.mem_set hi _, ?_⟩
      rw [Bool.not_eq_true, List.all_eq_false]
      refine ⟨⟨16, a, b, c⟩, List.mem_set hk _, ?_⟩
      simp [shapeI, shapeB, C2.inB]
    unfold C2.soundB
    rw [hn, Bool.false_and]
theorem sp6 {p : Pr} (h : OkPr p) : checkF ⟨p.fs ++ [[]], p.futs, p.depth, p.fuel⟩ = 5 := by
  have hg := h.good
  have hgood : putE ⟨p.fs ++ [[]], p.futs, p.depth, p.fuel⟩ = 0 := by
    refine Good.code ⟨by simp; have := h.few; omega, fun f hf => ?_, fun f hf => ?_, hg.futs, hg.depth, hg.fuel⟩
    · simp at hf
      rcases hf with hf | rfl
      · exact hg.small f hf
      · simp
    · simp at hf
      rcases hf with hf | rfl
      · exact hg.shapes f hf
      · rfl
  exact fn_bad (p := ⟨p.fs ++ [[]], p.futs, p.depth, p.fuel⟩) (i := p.fs.length) (nf := (p.fs ++ [[]]).length) (futs := p.futs) (f := []) (fn_short rfl) (by simp) (by simp) hgood rfl rfl
theorem sp7 {p : Pr} (h : OkPr p) : checkF ⟨p.fs, p.futs, p.depth, 0⟩ = 1 := by
  have hg := h.good
  refine put_unsound (C2.big_not (by have := hg.few; show ¬ 12 < p.fs.length; omega) fun j hj => by have := hg.small _ (List.getElem_mem hj); omega) ?_
  unfold C2.soundB
  simp [C2.inB]
end Go.Proofs.YtpmapdialjdcbabDoor.V5
