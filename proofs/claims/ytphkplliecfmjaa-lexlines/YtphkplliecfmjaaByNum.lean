/-
  Words and numbers by numbers, plainly; three rows of ints in memory.
-/
import Derived.Test.YtphkplliecfmjaaBlanks
import Derived.Test.YtphkplliecfmjaaDigits
namespace Go.Proofs.Ytphkplliecfmjaa
open Go.RowKit

/-- a text under way: the tokens that it has, the last one ended -/
structure TxAt (sl : List UInt8) (T : List Tk) (ln : Int) : Prop where
  at' : ∃ st s0, lexGo st0 sl = .inr st ∧ Cl st ∧ st.ins ≠ 1 ∧ finF st = some s0 ∧ s0.T = T ∧ s0.ln = ln
theorem tx0 : TxAt [] [] 1 := ⟨st0, st0, rfl, cl0, by simp [st0], rfl, rfl, rfl⟩
theorem TxAt.ten {sl : List UInt8} {T : List Tk} {ln : Int} (h : TxAt sl T ln) : TxAt (sl ++ [10]) (if openT T then T ++ [⟨4, [], 0, ln⟩] else T) (ln + 1) := by
  obtain ⟨st, s0, h1, h2, h3, h4, rfl, rfl⟩ := h
  have e : takeF st 10 = some s0.endL := by rw [ten_fin, h4]; rfl
  have i0 := fin_ins h4
  refine ⟨s0.endL, s0.endL, ?_, (h2.take e).1, by simp [St.endL, i0], fin_zero i0, rfl, rfl⟩
  rw [lexGo_append, h1]
  exact (goY (b := 10) rfl e).trans rfl
theorem TxAt.done {sl : List UInt8} {T : List Tk} {ln : Int} (h : TxAt sl T ln) (hl : sl.length ≤ 8000) : lexF sl = (if openT T then T ++ [⟨4, [], 0, ln⟩] else T, 0, 0) := by
  obtain ⟨st, s0, h1, h2, h3, h4, rfl, rfl⟩ := h
  have e : takeF st 10 = some s0.endL := by rw [ten_fin, h4]; rfl
  have e2 : lexGo st0 (sl ++ [10]) = .inr s0.endL := by
    rw [lexGo_append, h1]
    exact (goY (b := 10) rfl e).trans rfl
  unfold lexF
  rw [if_neg (by omega), e2]
  rfl
theorem TxAt.blank {sl : List UInt8} {T : List Tk} {ln : Int} (h : TxAt sl T ln) : ∃ s0, lexGo st0 (sl ++ [32]) = .inr s0 ∧ s0.ins = 0 ∧ s0.ws = [] ∧ s0.num = 0 ∧ s0.T = T ∧ s0.ln = ln := by
  obtain ⟨st, s0, h1, h2, h3, h4, rfl, rfl⟩ := h
  obtain ⟨q0, q1, q2, q3⟩ := h2.fin h4
  have e : takeF st 32 = some s0 := by
    rw [takeF_rest (fun h => h3 h.1) (by omega) (by omega), h4]
    rfl
  refine ⟨s0, ?_, q0, q1, q2, rfl, rfl⟩
  rw [lexGo_append, h1]
  exact (goY (b := 32) rfl e).trans rfl
def wordL : Nat → List UInt8
  | 0 => [97]
  | 1 => [97, 98]
  | _ => [97, 98, 99]
theorem word_run {T : List Tk} {ln sg : Int} (m : Nat) : lexGo ⟨T, ln, 0, [], 0, sg⟩ (wordL m) = .inr ⟨T, ln, 2, wordL m, 0, sg⟩ := by
  have e1 : takeF ⟨T, ln, 0, [], 0, sg⟩ 97 = some ⟨T, ln, 2, [97], 0, sg⟩ := by simp [takeF, letF, byteOf]
  have e2 : takeF ⟨T, ln, 2, [97], 0, sg⟩ 98 = some ⟨T, ln, 2, [97, 98], 0, sg⟩ := by simp [takeF, letF, byteOf]
  have e3 : takeF ⟨T, ln, 2, [97, 98], 0, sg⟩ 99 = some ⟨T, ln, 2, [97, 98, 99], 0, sg⟩ := by simp [takeF, letF, byteOf]
  match m with
  | 0 => exact (goY (b := 97) rfl e1).trans rfl
  | 1 => exact (goY (b := 97) rfl e1).trans ((goY (b := 98) rfl e2).trans rfl)
  | m + 2 => exact (goY (b := 97) rfl e1).trans ((goY (b := 98) rfl e2).trans ((goY (b := 99) rfl e3).trans rfl))
theorem TxAt.word {sl : List UInt8} {T : List Tk} {ln : Int} (h : TxAt sl T ln) (m : Nat) : TxAt (sl ++ 32 :: wordL m) (T ++ [⟨1, wordL m, 0, ln⟩]) ln := by
  obtain ⟨⟨T', ln', ins, ws, num, sg⟩, h1, h2, h3, h4, h5, h6⟩ := h.blank
  simp only at h2 h3 h4 h5 h6
  subst h2 h3 h4 h5 h6
  refine ⟨⟨T', ln', 2, wordL m, 0, sg⟩, ⟨T' ++ [⟨1, wordL m, 0, ln'⟩], ln', 0, [], 0, sg⟩, ?_, ⟨fun hx => absurd rfl hx, fun _ => rfl⟩, by simp, rfl, rfl, rfl⟩
  rw [show sl ++ 32 :: wordL m = (sl ++ [32]) ++ wordL m by simp, lexGo_append, h1]
  exact word_run m
theorem TxAt.num {sl : List UInt8} {T : List Tk} {ln : Int} (h : TxAt sl T ln) (d : Int) (h0 : 0 ≤ d) (h9 : d ≤ 9) : TxAt (sl ++ [32] ++ [byteOf (d + 48)]) (T ++ [⟨2, [], d, ln⟩]) ln := by
  obtain ⟨⟨T', ln', ins, ws, num, sg⟩, h1, h2, h3, h4, h5, h6⟩ := h.blank
  simp only at h2 h3 h4 h5 h6
  subst h2 h3 h4 h5 h6
  have hb := byteOf_nat (c := d + 48) (by omega) (by omega)
  have e : takeF ⟨T', ln', 0, [], 0, sg⟩ (d + 48) = some ⟨T', ln', 4, [], d, 1⟩ := by
    rw [takeF_dig (by simp) (by omega) (by omega)]
    have h1 : sgF ⟨T', ln', 0, [], 0, sg⟩ = 1 := rfl
    unfold digF
    rw [if_neg (by simp), h1, if_pos (by simp only; omega)]
    simp
  refine ⟨⟨T', ln', 4, [], d, 1⟩, ⟨T' ++ [⟨2, [], d, ln'⟩], ln', 0, [], 0, 1⟩, ?_, ⟨fun _ => rfl, fun hx => absurd rfl hx⟩, by simp, rfl, rfl, rfl⟩
  rw [lexGo_append, h1]
  exact (goY hb e).trans rfl
theorem TxAt.sign {sl : List UInt8} {T : List Tk} {ln : Int} (h : TxAt sl T ln) : TxAt (sl ++ [44]) (T ++ [⟨3, [44], 0, ln⟩]) ln := by
  obtain ⟨st, s0, h1, h2, h3, h4, rfl, rfl⟩ := h
  obtain ⟨q0, q1, q2, q3⟩ := h2.fin h4
  have e : takeF st 44 = some ⟨s0.T ++ [⟨3, [44], 0, s0.ln⟩], s0.ln, s0.ins, s0.ws, s0.num, s0.sg⟩ := by
    rw [takeF_rest (fun h => h3 h.1) (by omega) (by omega), h4]
    rfl
  refine ⟨_, _, ?_, (h2.take e).1, by simp [q0], fin_zero q0, rfl, rfl⟩
  rw [lexGo_append, h1]
  exact (goY (b := 44) rfl e).trans rfl
theorem open_cat (T : List Tk) (k n l : Int) (s : List UInt8) (h : k ≠ 4) : openT (T ++ [⟨k, s, n, l⟩]) = true := by
  rw [open_snoc]
  simp [h]
theorem open_end (T : List Tk) (ln : Int) : openT (if openT T then T ++ [⟨4, [], 0, ln⟩] else T) = false := by
  cases h : openT T with
  | true => rw [if_pos rfl, open_snoc]; rfl
  | false => simp [h]
def ints (l : List Int) : List Value := l.map (Value.int .i64)
theorem ints_snoc (l : List Int) (x : Int) : ints (l ++ [x]) = ints l ++ [.int .i64 x] := by simp [ints]
theorem ints_len (l : List Int) : (ints l).length = l.length := by simp [ints]
def apart (a b : Value) : Prop := ∀ g, a.ownBlock = some g → b.ownBlock ≠ some g
/-- three rows of ints that the call has made, no two in one block -/
structure R3 (w wr : World) (Ks Ns Ls : List Int) (kv nv lv : Value) : Prop where
  low : Below w.heap.size w wr
  a : wr.ownsRow w.heap.size 3 1 kv Ks.length (ints Ks)
  b : wr.ownsRow w.heap.size 3 1 nv Ns.length (ints Ns)
  c : wr.ownsRow w.heap.size 3 1 lv Ls.length (ints Ls)
  ab : apart kv nv
  bc : apart nv lv
  ca : apart lv kv
section
variable {w wr : World} {Ks Ns Ls : List Int} {kv nv lv : Value}
theorem R3.rot (h : R3 w wr Ks Ns Ls kv nv lv) : R3 w wr Ns Ls Ks nv lv kv := ⟨h.low, h.b, h.c, h.a, h.bc, h.ca, h.ab⟩
theorem apart.symm {a b : Value} (h : apart a b) : apart b a := fun g hg e => h g e hg
theorem R3.alloc (h : R3 w wr Ks Ns Ls kv nv lv) (o : Obj) : R3 w (wr.alloc o) Ks Ns Ls kv nv lv :=
  ⟨h.low.alloc h.low.size o, h.a.alloc o, h.b.alloc o, h.c.alloc o, h.ab, h.bc, h.ca⟩
theorem R3.kept (h : R3 w wr Ks Ns Ls kv nv lv) {w' : World} (hb : Below wr.heap.size wr w') : R3 w w' Ks Ns Ls kv nv lv :=
  ⟨below_then h.low hb, owns_same h.a fun g hg => hb.block g (h.a.lt g hg).2, owns_same h.b fun g hg => hb.block g (h.b.lt g hg).2, owns_same h.c fun g hg => hb.block g (h.c.lt g hg).2, h.ab, h.bc, h.ca⟩
theorem R3.push (h : R3 w wr Ks Ns Ls kv nv lv) {w' : World} {g cap : Nat} {x : Int} (hg : wr.grownBy w' kv.ownBlock) (hat : kv.ownBlock = some g ∨ g = wr.heap.size)
    (ho : w'.ownsRow w.heap.size 3 1 (.slice (some ⟨g, 0, none⟩) (Ks.length + 1) cap) (Ks.length + 1) (ints Ks ++ [.int .i64 x])) :
    R3 w w' (Ks ++ [x]) Ns Ls (.slice (some ⟨g, 0, none⟩) (Ks.length + 1) cap) nv lv := by
  have kn : ∀ {v : Value} {n : Nat} {xs : List Value}, apart kv v → wr.ownsRow w.heap.size 3 1 v n xs → w'.ownsRow w.heap.size 3 1 v n xs := fun {v n xs} ha hv => owns_same hv fun j hj => hg.block j (hv.lt j hj).2 fun e => ha j e.symm hj
  have far : ∀ {v : Value} {n : Nat} {xs : List Value}, apart kv v → wr.ownsRow w.heap.size 3 1 v n xs → apart (.slice (some ⟨g, 0, none⟩) (Ks.length + 1) cap) v := fun {v n xs} ha hv j hj e => by
    have hj' : g = j := by simpa [Value.ownBlock] using hj
    subst hj'
    rcases hat with h1 | rfl
    · exact ha _ h1 e
    · exact absurd (hv.lt _ e).2 (by omega)
  refine ⟨h.low.trans ⟨hg.os, hg.tape, hg.output, hg.size, fun k hk => hg.block k (by have := h.low.size; omega) fun e => ?_⟩, ?_, kn h.ab h.b, kn h.ca.symm h.c, far h.ab h.b, h.bc, (far h.ca.symm h.c).symm⟩
  · have := (h.a.lt k e.symm).1
    omega
  · rw [List.length_append, ints_snoc]
    exact ho
end
theorem r3_0 (w : World) : R3 w w [] [] [] (.slice none 0 0) (.slice none 0 0) (.slice none 0 0) :=
  ⟨Below.refl _ _, World.ownsRow_nil _ _ _ _, World.ownsRow_nil _ _ _ _, World.ownsRow_nil _ _ _ _, fun g hg => by simp [Value.ownBlock] at hg, fun g hg => by simp [Value.ownBlock] at hg, fun g hg => by simp [Value.ownBlock] at hg⟩
theorem infoInt : (Try.prog.info? 3).map (fun i => (i.zero, i.size, i.bytes)) = some (some (.int .i64 0), 1, 8) := by kernel_rfl
/-- a number of a row -/
theorem row_at {wr : World} {B : Nat} {v : Value} {l : List Int} (h : wr.ownsRow B 3 1 v l.length (ints l)) {i : Nat} (hi : i < l.length) : ∃ g c, v = .slice (some ⟨g, 0, none⟩) l.length c ∧ wr.cell? ⟨g, i, none⟩ = some (.int .i64 l[i]) := by
  rcases h.2 with ⟨rfl, h0⟩ | ⟨g, cap, cur, rfl, _⟩
  · omega
  · refine ⟨g, cap, rfl, ?_⟩
    rw [h.cellAt i (by omega)]
    simp [ints, hi]
theorem word_slice (m : Nat) (hm : m < 3) (w : World) : (Instr.slice 9 (.string ⟨#[32, 97, 98, 99]⟩) none (some (.int .i64 (2 + (m : Int)))) none).run Try.prog w = .ok (.string (strB (32 :: wordL m))) w := by
  rw [run_slice_string_h (P := Try.prog) w 9 _ Try.underlying9 .i64 (2 + (m : Int)) (by omega) (by simp [ByteArray.size]; omega)]
  match m, hm with
  | 0, _ => rfl
  | 1, _ => rfl
  | 2, _ => rfl
end Go.Proofs.Ytphkplliecfmjaa
