/-
  Helpers: Ins, Read, Stm, LexT, RfP, RfQ, RfR, RfM, RfM2, RfM3.
-/
import Derived.Test.YtnhogbgnnnniaaaDoorAsmAllBun28
import Derived.Laws.CopyOwn
import Derived.Test.YtnhogbgnnnniaaaDoorAsmAllBun14
namespace Go.Proofs.YtnhogbgnnnniaaaDoor
open Go.RowKit L3
open C2 (In insV)

/-- a slice of numbers -/
def SlN (w : World) (v : Value) (xs : List Int) : Prop := ∃ a c, v = .slice a xs.length c ∧ ∀ k (h : k < xs.length), ∃ g f, a = some ⟨g, f, none⟩ ∧ w.cell? ⟨g, f + k, none⟩ = some (.int .i64 xs[k])
def cellsN (xs : List Int) : List Value := xs.map (Value.int .i64)
theorem own_slN {w : World} {B : Nat} {v : Value} {xs : List Int} (h : w.ownsRow B 3 1 v xs.length (cellsN xs)) : SlN w v xs := by
  rcases h.2 with ⟨rfl, h0⟩ | ⟨g, cap, cur, rfl, _⟩
  · exact ⟨none, 0, by rw [h0], fun k hk => by omega⟩
  · refine ⟨some ⟨g, 0, none⟩, cap, rfl, fun k hk => ⟨g, 0, rfl, ?_⟩⟩
    rw [Nat.zero_add, h.cellAt _ (by omega)]
    simp [cellsN, hk]
theorem SlN.kept {w w' : World} {v : Value} {xs : List Int} (h : SlN w v xs) (hb : Below w.heap.size w w') : SlN w' v xs := by
  obtain ⟨a, c, e, hk⟩ := h
  refine ⟨a, c, e, fun k h => ?_⟩
  obtain ⟨g, f, e2, ht⟩ := hk k h
  refine ⟨g, f, e2, ?_⟩
  rw [World.cell?_of_block (hb.block _ (World.block_lt_of_cell? w _ ht))]
  exact ht
/-- nothing but the block r is turned -/
structure Only (r : Nat) (w w' : World) : Prop where
  os : w'.os = w.os
  tape : w'.tape = w.tape
  output : w'.output = w.output
  size : w'.heap.size = w.heap.size
  block : ∀ k, k ≠ r → w'.heap[k]? = w.heap[k]?
theorem Only.refl (r : Nat) (w : World) : Only r w w := ⟨rfl, rfl, rfl, rfl, fun _ _ => rfl⟩
theorem Only.trans {r : Nat} {a b c : World} (h : Only r a b) (k : Only r b c) : Only r a c := ⟨k.os.trans h.os, k.tape.trans h.tape, k.output.trans h.output, k.size.trans h.size, fun i hi => (k.block i hi).trans (h.block i hi)⟩
theorem Only.set {r : Nat} (w : World) (f : Nat) (v : Value) : Only r w (w.setCell ⟨r, f, none⟩ v) := ⟨rfl, rfl, rfl, by simp [World.setCell], fun k hk => Below.heap_setCell _ _ _ _ hk⟩
theorem Only.below {r : Nat} {w w' : World} (h : Only r w w') {B : Nat} (hr : B ≤ r) : Below B w w' := ⟨h.os, h.tape, h.output, by rw [h.size]; exact Nat.le_refl _, fun k hk => h.block k (by omega)⟩
theorem setRow_at {w : World} {g : Nat} {cur : Array Value} {t : TypeId} {fr : Nat × Nat} (hg : w.heap[g]? = some (.cells cur t fr)) (cs : Array Value) : (w.setRow g cs).heap[g]? = some (.cells cs t fr) := by
  simp [World.setRow, Array.getElem?_modify, hg]
theorem setRow_only (w : World) (g : Nat) (cs : Array Value) : Only g w (w.setRow g cs) :=
  ⟨rfl, rfl, rfl, by simp [World.setRow], fun k hk => by simp [World.setRow, Array.getElem?_modify, Ne.symm hk]⟩
def pad3 (xs : List Int) : Array Value := #[.int .i64 (xs.getD 0 0), .int .i64 (xs.getD 1 0), .int .i64 (xs.getD 2 0)]
theorem sizeInt : (Tryd.prog.info? 3).map (·.size) = some 1 := by kernel_rfl
theorem addr_add (g f j : Nat) : (⟨g, f, none⟩ : Addr).add j = ⟨g, f + j, none⟩ := by
  unfold Addr.add
  split
  · rename_i h
    simp_all
  · rfl
theorem copy3_run (w : World) (g : Nat) (v : Value) (xs : List Int) (hx : xs.length ≤ 3) (hS : SlN w v xs)
    (hg : w.heap[g]? = some (.cells #[.int .i64 0, .int .i64 0, .int .i64 0] 82 (0, 0))) :
    ∃ w1, (Builtin.copy_ #[36, 36] 3 #[.slice (some ⟨g, 0, none⟩) 3 3, v]).run Tryd.prog w = .ok (goInt xs.length) w1 ∧ w1.heap[g]? = some (.cells (pad3 xs) 82 (0, 0)) ∧ Only g w w1 := by
  obtain ⟨ad, c, rfl, hk⟩ := hS
  by_cases h0 : xs.length = 0
  · obtain rfl : xs = [] := List.length_eq_zero_iff.1 h0
    exact ⟨w, run_copy_none w _ _ _ 3 _ _ _ _ _ _ Tryd.underlying36 sizeInt (by simp), hg, Only.refl _ _⟩
  · obtain ⟨g1, f1, rfl, _⟩ := hk 0 (by omega)
    have hr := run_copy_row (P := Tryd.prog) w 36 36 3 3 g 0 3 3 ⟨g1, f1, none⟩ xs.length c _ _ (cellsN xs) Tryd.underlying36 sizeInt hg (by rw [show Nat.min xs.length 3 = xs.length from Nat.min_eq_left hx]; simp [cellsN]) (fun j u hj => by
      have hj' : j < xs.length := by
        have := (List.getElem?_eq_some_iff.1 hj).1
        simpa [cellsN] using this
      obtain ⟨g2, f2, e2, hc⟩ := hk j hj'
      simp at e2
      obtain ⟨rfl, rfl⟩ := e2
      simp [cellsN, hj'] at hj
      subst hj
      rw [addr_add]
      exact hc) (by simp [cellsN]; omega) (fun u hu => by
      simp [cellsN] at hu
      obtain ⟨z, _, rfl⟩ := hu
      rfl)
    have e : (List.take 0 (#[.int .i64 0, .int .i64 0, .int .i64 0] : Array Value).toList ++ cellsN xs ++ List.drop (0 + (cellsN xs).length) (#[.int .i64 0, .int .i64 0, .int .i64 0] : Array Value).toList).toArray = pad3 xs := by
      match xs, hx with
      | [], _ => rfl
      | [a], _ => rfl
      | [a, b], _ => rfl
      | [a, b, c], _ => rfl
      | a :: b :: c :: d :: r, h => simp at h
    rw [e, show (cellsN xs).length = xs.length by simp [cellsN]] at hr
    exact ⟨_, hr, setRow_at hg _, setRow_only _ _ _⟩
set_option maxRecDepth 4000 in
theorem instruction_any (k : Nat) (xs : List Int) (v : Value) (w : World) (hx : xs.length ≤ 3) (hS : SlN w v xs) :
    Calls Tryd.prog 59 #[.int .i64 (k : Int), v] w fun e w' => e = .returned (insV (insOf k xs)) ∧ Below w.heap.size w w' := by
  have hS2 : SlN ((w.alloc (.cells #[.int .i64 0, .int .i64 0, .int .i64 0, .int .i64 0] 42)).alloc (.cells #[.int .i64 0, .int .i64 0, .int .i64 0] 82)) v xs := hS.kept (((Below.refl _ _).alloc (Nat.le_refl _) _).alloc (by simp) _)
  obtain ⟨w1, hrun, hg1, ho1⟩ := copy3_run _ (w.heap.size + 1) v xs hx hS2 (heap_alloc2_new _ _ _)
  have hr1 : w1.heap[w.heap.size]? = some (.cells #[.int .i64 0, .int .i64 0, .int .i64 0, .int .i64 0] 42 (0, 0)) := (ho1.block _ (by omega)).trans (heap_alloc2_old _ _ _)
  have c0 := cell_of_row w1 _ 0 _ _ _ hg1
  have c1 := cell_of_row w1 _ 1 _ _ _ hg1
  have c2 := cell_of_row w1 _ 2 _ _ _ hg1
  have d0 := cell_of_row w1 _ 0 _ _ _ hr1
  have d1 := cell_of_row w1 _ 1 _ _ _ hr1
  have d2 := cell_of_row w1 _ 2 _ _ _ hr1
  have d3 := cell_of_row w1 _ 3 _ _ _ hr1
  have f0 := frozen_of_row w1 _ 0 _ _ hr1
  have f1 := frozen_of_row w1 _ 1 _ _ hr1
  have f2 := frozen_of_row w1 _ 2 _ _ hr1
  have f3 := frozen_of_row w1 _ 3 _ _ hr1
  simp [pad3] at c0 c1 c2 d0 d1 d2 d3
  have hb : Below w.heap.size w w1 := (((Below.refl _ _).alloc (Nat.le_refl _) _).alloc (by simp) _).trans (ho1.below (by omega))
  have HP : Hid (Below w.heap.size w w1) := hb
  clear hg1 hr1 ho1 hS2 hb
  go_enter Tryd.func59, Tryd.ntmps59
  go_wp2_with fail
  exact bodyPost_ret (v := insV (insOf k xs)) (by simp [results, Tryd.results59, go_sem, d0, d1, d2, d3, insV, insOf]) rfl ⟨rfl, (((HP.out.setCell (by simp) _).setCell (by simp) _).setCell (by simp) _).setCell (by simp) _⟩
end Go.Proofs.YtnhogbgnnnniaaaDoor
namespace Go.Proofs.YtnhogbgnnnniaaaDoor
open Go.RowKit L3 Go.Maps
open C2 (owns_mono)

theorem ints_info : (Tryd.prog.info? 3).map (fun i => (i.zero, i.size, i.bytes)) = some (some (.int .i64 0), 1, 8) := by kernel_rfl
theorem cellsN_snoc (xs : List Int) (x : Int) : cellsN (xs ++ [x]) = cellsN xs ++ [.int .i64 x] := by simp [cellsN]
def noneV : Value := .agg #[.int .i64 0, .slice none 0 0, .int .i64 0]
def ReadPost (ts : List Tk) (w : World) (e : Ending) (w' : World) : Prop :=
  Below w.heap.size w w' ∧ ((readF ts = none ∧ e = .returned (.tuple #[noneV, .bool false])) ∨
    ∃ k xs oa ol oc, readF ts = some (k, xs) ∧ e = .returned (.tuple #[.agg #[.int .i64 (k : Int), .slice oa ol oc, .int .i64 (lineOf ts)], .bool true]) ∧ w'.ownsRow w.heap.size 3 1 (.slice oa ol oc) xs.length (cellsN xs))
theorem altG_at {k : Nat} {r : List Tk} (h : k < r.length) : altG k (r.drop k) = if k % 2 = 0 then (if r[k].k = 2 then (altG (k + 1) (r.drop (k + 1))).map (r[k].n :: ·) else none) else (if r[k].s = [44] then altG (k + 1) (r.drop (k + 1)) else none) := by
  rw [List.drop_eq_getElem_cons h]
  rfl
/-- the loop over the operands, behind k tokens -/
structure Rdg (w : World) (R : List Tk) (kd : Nat) (ln : Int) (wr : World) (k : Nat) (ys : List Int) (oa : Option Addr) (ol oc : Nat) : Prop where
  out : wr.heap[w.heap.size]? = some (.cells #[.int .i64 0, .slice none 0 0, .int .i64 0] 106 (0, 0))
  st : wr.heap[w.heap.size + 2]? = some (.cells #[.int .i64 (kd : Int), .slice oa ol oc, .int .i64 ln] 106 (0, 0))
  own : wr.ownsRow (w.heap.size + 3) 3 1 (.slice oa ol oc) ys.length (cellsN ys)
  low : Below w.heap.size w wr
  go : altG 0 R = (altG k (R.drop k)).map (ys ++ ·)
  len : ys.length ≤ k
theorem own_blk {w : World} {B e size n : Nat} {v : Value} {xs : List Value} (h : w.ownsRow B e size v n xs) {g : Nat} (hg : v.ownBlock = some g) : B ≤ g := (h.lt g hg).1
theorem row_some {w : World} {B e size n : Nat} {v : Value} {xs : List Value} (h : w.ownsRow B e size v (n + 1) xs) : ∃ g cap, v = .slice (some ⟨g, 0, none⟩) (n + 1) cap := by
  rcases h.2 with ⟨_, h0⟩ | ⟨g, cap, cur, rfl, _⟩
  · omega
  · exact ⟨g, cap, rfl⟩
section
variable {w wr : World} {R : List Tk} {kd k : Nat} {ln : Int} {ys : List Int} {oa : Option Addr} {ol oc : Nat}
theorem Rdg.next (h : Rdg w R kd ln wr k ys oa ol oc) (o : Obj) (hg : altG 0 R = (altG (k + 1) (R.drop (k + 1))).map (ys ++ ·)) : Rdg w R kd ln (wr.alloc o) (k + 1) ys oa ol oc :=
  ⟨(Below.heap_alloc _ _ _ (lt_of_block h.out)).trans h.out, (Below.heap_alloc _ _ _ (lt_of_block h.st)).trans h.st, h.own.alloc _, h.low.alloc h.low.size _, hg, by have := h.len; omega⟩
theorem Rdg.push (h : Rdg w R kd ln wr k ys oa ol oc) (o1 o2 : Obj) {w4 : World} {gg cap : Nat} {x : Int} (hgrow : ((wr.alloc o1).alloc o2).grownBy w4 (Value.slice oa ol oc).ownBlock)
    (hown : w4.ownsRow (w.heap.size + 3) 3 1 (.slice (some ⟨gg, 0, none⟩) (ys.length + 1) cap) (ys.length + 1) (cellsN ys ++ [.int .i64 x]))
    (hg : altG 0 R = (altG (k + 1) (R.drop (k + 1))).map ((ys ++ [x]) ++ ·)) :
    Rdg w R kd ln (w4.setCell ⟨w.heap.size + 2, 1, none⟩ (.slice (some ⟨gg, 0, none⟩) (ys.length + 1) cap)) (k + 1) (ys ++ [x]) (some ⟨gg, 0, none⟩) (ys.length + 1) cap := by
  have l1 := lt_of_block h.st
  have hb : ∀ j, j < w.heap.size + 3 → w4.heap[j]? = wr.heap[j]? := fun j hj => by
    rw [hgrow.block j (by simp; omega) (fun e => by have := own_blk h.own e.symm; omega), Below.heap_alloc _ _ _ (by simp; omega), Below.heap_alloc _ _ _ (by omega)]
  have hgg : w.heap.size + 3 ≤ gg := own_blk hown rfl
  refine ⟨?_, ?_, ?_, ?_, hg, by have := h.len; simp; omega⟩
  · rw [Below.heap_setCell _ _ _ _ (by simp), hb _ (by omega)]
    exact h.out
  · rw [heap_setCell_same _ _ _ _ _ _ ((hb _ (by omega)).trans h.st)]
    rfl
  · have e : (ys ++ [x]).length = ys.length + 1 := by simp
    rw [e, cellsN_snoc]
    exact owns_same hown fun g hg => Below.heap_setCell _ _ _ _ (by have := own_blk hown hg; show g ≠ w.heap.size + 2; omega)
  · have hs := hgrow.size
    simp at hs
    exact (h.low.trans ⟨hgrow.os, hgrow.tape, hgrow.output, by omega, fun j hj => hb j (by omega)⟩).setCell (by simp) _
end
theorem alloc3_new (w : World) (a b c : Obj) : (((w.alloc a).alloc b).alloc c).heap[w.heap.size + 2]? = some c := by
  have := heap_alloc_new ((w.alloc a).alloc b) c
  rw [show ((w.alloc a).alloc b).heap.size = w.heap.size + 2 by simp] at this
  exact this
theorem str_eq {a b : ByteArray} (h : a = b) : (a.toList == b.toList) = true := by rw [h]; simp
theorem str_ne {a b : ByteArray} (h : ¬ a = b) : (a.toList == b.toList) = false := by
  rw [beq_eq_false_iff_ne]
  intro e
  exact h (WideShapes.bytes_inj (by simpa [ByteArray.toList_eq] using e))
set_option maxHeartbeats 1000000 in
theorem comma_eq {l : List UInt8} (h : l = [44]) : ((strB l).toList == [44]) = true := by simp [ByteArray.toList_eq, strB, h]
theorem comma_ne {l : List UInt8} (h : ¬ l = [44]) : ((strB l).toList == [44]) = false := by simp [ByteArray.toList_eq, strB, h]
theorem two_old {w : World} (o1 o2 : Obj) : Below w.heap.size w ((w.alloc o1).alloc o2) := ((Below.refl _ _).alloc (Nat.le_refl _) _).alloc (by simp) _
theorem tkAt_kept {w w' : World} {g f : Nat} {t : Tk} (h : TkAt w g f t) (hb : Below w.heap.size w w') : TkAt w' g f t := by
  have st : ∀ {x : Addr} {u : Value}, w.cell? x = some u → w'.cell? x = some u := fun {x} {u} hx => by
    rw [World.cell?_of_block (hb.block _ (World.block_lt_of_cell? w x hx))]
    exact hx
  exact ⟨st h.k, st h.s, st h.n, st h.l⟩
def tkRow (t : Tk) : Array Value := #[.int .i64 t.k, .string (strB t.s), .int .i64 t.n, .int .i64 t.l]
theorem sl_from (g f n c : Nat) (h : n + 1 ≤ c) (hm : c ≤ 9223372036854775807) : ∃ ra, (∀ w, (Instr.slice 45 (.slice (some ⟨g, f, none⟩) (n + 1) c) (some (.int .i64 1)) none none).run Tryd.prog w = .ok (.slice ra n (c - 1)) w) ∧ (0 < n → ra = some ⟨g, f + 4, none⟩) := by
  by_cases h1 : c = 1
  · obtain rfl : n = 0 := by omega
    subst h1
    exact ⟨some ⟨g, f, none⟩, fun w => by go_simp, by omega⟩
  · refine ⟨some ⟨g, f + 4, none⟩, fun w => ?_, fun _ => rfl⟩
    go_simp
    intro h2
    omega
theorem readF_none {t : Tk} {r : List Tk} (h : kindOf t.s = 0) : readF (t :: r) = none := by simp [readF, h]
theorem readF_len {t : Tk} {r : List Tk} {kd : Nat} (hk : kindOf t.s = kd) (h : ¬ (r.length : Int) = restOf kd) : readF (t :: r) = none := by simp [readF, hk, h]
theorem readF_at {t : Tk} {r : List Tk} {kd : Nat} (hk : kindOf t.s = kd) (h0 : kd ≠ 0) (h : (r.length : Int) = restOf kd) : readF (t :: r) = (altG 0 r).map fun xs => (kd, xs) := by simp [readF, hk, h0, h]
set_option maxRecDepth 4000 in
set_option maxHeartbeats 1000000 in
theorem read_any (t : Tk) (r : List Tk) (g f c B : Nat) (w : World) (hS : TkAt w g f t) (hR : ∀ k (h : k < r.length), TkAt w g (f + 4 + k * 4) r[k]) (hc : r.length + 1 ≤ c) (hcm : c ≤ 9223372036854775807) (hK : KMap w B) (hF : FTab w) (hts : t.s.length ≤ 9000) :
    Calls Tryd.prog 57 #[.slice (some ⟨g, f, none⟩) (r.length + 1) c, .map (some B)] w fun e w' => ReadPost (t :: r) w e w' := by
  obtain ⟨a0, a1, a2, a3⟩ := hS
  have hgl : g < w.heap.size := block_lt_of_cell a0
  obtain ⟨kd, hkd⟩ : ∃ kd, kindOf t.s = kd := ⟨_, rfl⟩
  have hk19 : kd ≤ 19 := by rw [← hkd]; exact kindOf_le _
  have hat19 := map19_at t.s
  have hhas := map19_has t.s
  rw [hkd] at hat19 hhas
  have HAT : Hid (map19.atKey (.string t.s) (.lit (.int .i64 0)) = .lit (.int .i64 (kd : Int))) := hat19
  obtain ⟨S, hSd⟩ : ∃ S, S = strB t.s := ⟨_, rfl⟩
  have hkey : keyOf Tryd.prog 9 (.string S) = some (.string t.s) := by
    rw [WideMaps.keyOf_string_mk Tryd.underlying9 (by rw [hSd, strB_size]; unfold maxLen; omega), hSd, strB_data]
  rw [← hSd] at a1
  have hK2 : KMap (((w.alloc (.cells #[.int .i64 0, .slice none 0 0, .int .i64 0] 106)).alloc (.cells #[.int .i64 t.k, .string S, .int .i64 t.n, .int .i64 t.l] 104))) B := hK.below (two_old _ _)
  obtain ⟨ra, hsl, hra⟩ := sl_from g f r.length c hc hcm
  have hlow0 : Below w.heap.size w (((w.alloc (.cells #[.int .i64 0, .slice none 0 0, .int .i64 0] 106)).alloc (.cells #[.int .i64 t.k, .string S, .int .i64 t.n, .int .i64 t.l] 104))).drew := (two_old _ _).drew
  have HKD : Hid (kindOf t.s = kd) := hkd
  clear hSd hat19 hkd
  by_cases h0 : kd = 0
  · have hhas0 : Maps.has map19 (.string t.s) = false := by rw [hhas, h0]; rfl
    have HP : Hid (ReadPost (t :: r) w (.returned (.tuple #[noneV, .bool false])) (((w.alloc (.cells #[.int .i64 0, .slice none 0 0, .int .i64 0] 106)).alloc (.cells #[.int .i64 t.k, .string S, .int .i64 t.n, .int .i64 t.l] 104))).drew) := ⟨hlow0, .inl ⟨readF_none (by rw [HKD.out, h0]), rfl⟩⟩
    clear hhas hlow0 hra hR
    go_enter Tryd.func57, Tryd.ntmps57
    go_wp2_with fail
    go_region
    go_wp2_with (first | (at_lookup; refine wpList_lookup_own_ok_int _ rfl _ _ 101 rfl 9 3 .i64 keyLaw Tryd.underlying101 Tryd.underlying3 (zeroInt _) B 19 map19 rfl (World.ownsMap.drew hK2) _ _ rfl hkey ?_; intro c' hat hwc))
    exact bodyPost_ret (v := .tuple #[noneV, .bool false]) (by simp [results, Tryd.results57, go_sem, noneV]) rfl HP.out
  · have hhas1 : Maps.has map19 (.string t.s) = true := by rw [hhas]; simpa using h0
    have hF2 := (hF.below (two_old (w := w) (.cells #[.int .i64 0, .slice none 0 0, .int .i64 0] 106) (.cells #[.int .i64 t.k, .string S, .int .i64 t.n, .int .i64 t.l] 104)) kd (by omega)).2
    obtain ⟨ob1, ob2⟩ := opsOf_bd kd
    obtain ⟨op, hop⟩ : ∃ op, opsOf kd = op := ⟨_, rfl⟩
    obtain ⟨q, hq⟩ : ∃ q, (if 0 < 2 * op - 1 then 2 * op - 1 else 0) = q := ⟨_, rfl⟩
    have hrest : restOf kd = q := by rw [restOf, hop, ← hq]; split <;> omega
    have hq1 : 0 ≤ q ∧ q ≤ 5 := by rw [← hq]; split <;> omega
    have hmx : ∀ (w : World), (Builtin.max_ #[3, 3] 3 #[.int .i64 0, .int .i64 (2 * op - 1)]).run Tryd.prog w = .ok (.int .i64 q) w := fun w => by
      rw [run_max_int2, ← hq]
    rw [hop] at hF2 ob1 ob2
    clear hhas hop hq
    by_cases hlen : (r.length : Int) = q
    · have hd : ((r.length : Int) != q) = false := by simpa using hlen
      have hrd := readF_at HKD.out h0 (by rw [hrest]; exact hlen)
      have HRD : Hid (readF (t :: r) = (altG 0 r).map fun xs => (kd, xs)) := hrd
      have HLOW : Hid (Below w.heap.size w (((w.alloc (.cells #[.int .i64 0, .slice none 0 0, .int .i64 0] 106)).alloc (.cells #[.int .i64 t.k, .string S, .int .i64 t.n, .int .i64 t.l] 104))).drew) := hlow0
      clear hlow0 hrest hrd
      go_enter Tryd.func57, Tryd.ntmps57
      go_wp2_with fail
      go_region
      go_wp2_with (first | (at_lookup; refine wpList_lookup_own_ok_int _ rfl _ _ 101 rfl 9 3 .i64 keyLaw Tryd.underlying101 Tryd.underlying3 (zeroInt _) B 19 map19 rfl (World.ownsMap.drew hK2) _ _ rfl hkey ?_; intro c' hat hwc; obtain rfl : (kd : Int) = c' := by (have := HAT.out.symm.trans hat; simpa using this)))
      have hL0 : Rdg w r kd t.l ((((w.alloc (.cells #[.int .i64 0, .slice none 0 0, .int .i64 0] 106)).alloc (.cells #[.int .i64 t.k, .string S, .int .i64 t.n, .int .i64 t.l] 104))).alloc (.cells #[.int .i64 (kd : Int), .slice none 0 0, .int .i64 t.l] 106)).drew 0 [] none 0 0 :=
        ⟨(Below.heap_alloc _ _ _ (by simp; omega)).trans (heap_alloc2_old w _ _), alloc3_new w _ _ _, World.ownsRow_nil _ _ _ _, ((two_old _ _).alloc (by simp; omega) _).drew, by simp, by simp⟩
      clear hK2 hkey a0 a1 a2 a3 hd hF2 hmx hsl ob1 ob2 HAT hhas1
      obtain ⟨i0, hi, hz0, hz1, hz2⟩ := info_parts ints_info
      go_loopw [46] (fun i wr => ∃ (k : Nat) (ys : List Int) (oa : Option Addr) (ol oc : Nat), k ≤ r.length ∧ i = .int .i64 k ∧ Rdg w r kd t.l wr k ys oa ol oc) (fun i _ => r.length - (intOf i).toNat)
      case atStart => exact ⟨0, [], none, 0, 0, by omega, rfl, hL0⟩
      case round =>
        obtain ⟨k, ys, oa, ol, oc, hk, rfl, hL⟩ := hrel
        clear hL0
        have s0 := cell_of_row wr _ 0 _ _ _ hL.st
        have s1 := cell_of_row wr _ 1 _ _ _ hL.st
        have s2 := cell_of_row wr _ 2 _ _ _ hL.st
        have g1 := frozen_of_row wr _ 1 _ _ hL.st
        have o0 := cell_of_row wr _ 0 _ _ _ hL.out
        have o1 := cell_of_row wr _ 1 _ _ _ hL.out
        have o2 := cell_of_row wr _ 2 _ _ _ hL.out
        have q0 := frozen_of_row wr _ 0 _ _ hL.out
        have q1 := frozen_of_row wr _ 1 _ _ hL.out
        have q2 := frozen_of_row wr _ 2 _ _ hL.out
        simp at s0 s1 s2 o0 o1 o2
        have hst := lt_of_block hL.st
        have hout := lt_of_block hL.out
        have hst' : w.heap.size + 1 + 1 < wr.heap.size := hst
        have s1' : wr.cell? ⟨w.heap.size + 1 + 1, 1, none⟩ = some (.slice oa ol oc) := s1
        have g1' : wr.frozen? ⟨w.heap.size + 1 + 1, 1, none⟩ = false := g1
        by_cases hlt : k < r.length
        · obtain rfl := hra (by omega)
          obtain ⟨b0, b1, b2, b3⟩ := tkAt_kept (hR k hlt) hL.low
          have hgo := hL.go
          rw [altG_at hlt] at hgo
          have hgw := block_lt_of_cell b0
          obtain ⟨u, hu⟩ : ∃ u, r[k] = u := ⟨_, rfl⟩
          rw [hu] at hgo b0 b1 b2 b3
          have hm2 : k % 2 = 0 ∨ k % 2 = 1 := by omega
          have HN : Hid (∀ (W : World), Below w.heap.size w W → altG 0 r = none → ReadPost (t :: r) w (.returned (.tuple #[noneV, .bool false])) W) := fun W hb hn => ⟨hb, .inl ⟨by rw [HRD.out, hn]; rfl, rfl⟩⟩
          have hwl : w.heap.size ≤ wr.heap.size := by omega
          rcases hm2 with hm | hm
          · have e1 : (k : Int) % 2 = 0 := by omega
            by_cases hu2 : u.k = 2
            · have e2 : (u.k == 2) = true := by simp [hu2]
              rw [if_pos hm, if_pos hu2, Option.map_map] at hgo
              have HGO : Hid (altG 0 r = (altG (k + 1) (r.drop (k + 1))).map ((ys ++ [u.n]) ++ ·)) := hgo.trans (by congr 1; funext z; simp)
              have hown2 := (hL.own.alloc (.cells #[.int .i64 u.k, .string (strB u.s), .int .i64 u.n, .int .i64 u.l] 104)).alloc (.cells #[.int .i64 u.n] 3)
              have hyl : ys.length ≤ 20000 := by have := hL.len; omega
              clear hgo hu hu2
              go_wp2_with (at_builtin; refine wpList_append_own _ rfl _ _ 36 rfl (w.heap.size + 3) 3 i0 (.int .i64 0) 1 8 Tryd.underlying36 hi hz0 hz1 hz2 rfl (by decide) _ _ _ rfl hown2 ⟨wr.heap.size + 1, 0, none⟩ 1 1 [.int .i64 u.n] rfl rfl ?d1 ?d2 ?d3 ?d4 ?d5 ?_)
              case d2 => rfl
              case d3 => unfold maxLen; omega
              case d4 => omega
              case d5 => omega
              intro v' w4 hown4 hgrow _
              obtain ⟨gg, cap, rfl⟩ := row_some hown4
              have hLn : Hid (Rdg w r kd t.l (w4.setCell ⟨w.heap.size + 2, 1, none⟩ (.slice (some ⟨gg, 0, none⟩) (ys.length + 1) cap)) (k + 1) (ys ++ [u.n]) (some ⟨gg, 0, none⟩) (ys.length + 1) cap) := hL.push _ _ hgrow hown4 HGO.out
              have hst4 : w4.heap[w.heap.size + 2]? = _ := (hgrow.block _ (by simp; omega) (fun e => by have := own_blk hL.own e.symm; omega)).trans ((Below.heap_alloc _ _ _ (by simp; omega)).trans ((Below.heap_alloc _ _ _ (by omega)).trans hL.st))
              have t1 := cell_of_row w4 _ 1 _ _ _ hst4
              have t2 := frozen_of_row w4 _ 1 _ _ hst4
              simp at t1
              have t1' : w4.cell? ⟨w.heap.size + 1 + 1, 1, none⟩ = some (.slice oa ol oc) := t1
              have t2' : w4.frozen? ⟨w.heap.size + 1 + 1, 1, none⟩ = false := t2
              clear hst4 hown4 hgrow hown2 hL
              go_wp2_with fail
              go_roundw
              case rel => exact ⟨k + 1, ys ++ [u.n], _, _, _, by omega, by go_num, hLn.out⟩
              case measure => simp [intOf]; omega
            · have e2 : (u.k == 2) = false := by simp [hu2]
              rw [if_pos hm, if_neg hu2] at hgo
              simp only [Option.map_none] at hgo
              have HP2 : Hid (ReadPost (t :: r) w (.returned (.tuple #[noneV, .bool false])) ((((wr.setCell ⟨w.heap.size, 0, none⟩ (.int .i64 0)).setCell ⟨w.heap.size, 1, none⟩ (.slice none 0 0)).setCell ⟨w.heap.size, 2, none⟩ (.int .i64 0)).alloc (.cells #[.int .i64 u.k, .string (strB u.s), .int .i64 u.n, .int .i64 u.l] 104))) := HN.out _ ((((hL.low.setCell (by simp) _).setCell (by simp) _).setCell (by simp) _).alloc (by simp [World.setCell]; omega) _) hgo
              clear hgo hu hL
              go_wp2_with fail
              exact bodyPost_ret (v := .tuple #[noneV, .bool false]) (by simp [results, Tryd.results57, go_sem, noneV, o0, o1, o2, hout]) rfl HP2.out
          · have e1 : (k : Int) % 2 = 1 := by omega
            by_cases hu2 : u.s = [44]
            · have e2 := comma_eq hu2
              rw [if_neg (by omega), if_pos hu2] at hgo
              have hLn : Hid (Rdg w r kd t.l (wr.alloc (.cells #[.int .i64 u.k, .string (strB u.s), .int .i64 u.n, .int .i64 u.l] 104)) (k + 1) ys oa ol oc) := hL.next _ hgo
              clear hgo hu hu2 hL
              go_wp2_with fail
              go_roundw
              case rel => exact ⟨k + 1, ys, _, _, _, by omega, by go_num, hLn.out⟩
              case measure => simp [intOf]; omega
            · have e2 := comma_ne hu2
              rw [if_neg (by omega), if_neg hu2] at hgo
              simp only [Option.map_none] at hgo
              have HP2 : Hid (ReadPost (t :: r) w (.returned (.tuple #[noneV, .bool false])) ((((wr.setCell ⟨w.heap.size, 0, none⟩ (.int .i64 0)).setCell ⟨w.heap.size, 1, none⟩ (.slice none 0 0)).setCell ⟨w.heap.size, 2, none⟩ (.int .i64 0)).alloc (.cells #[.int .i64 u.k, .string (strB u.s), .int .i64 u.n, .int .i64 u.l] 104))) := HN.out _ ((((hL.low.setCell (by simp) _).setCell (by simp) _).setCell (by simp) _).alloc (by simp [World.setCell]; omega) _) hgo
              clear hgo hu hL
              go_wp2_with fail
              exact bodyPost_ret (v := .tuple #[noneV, .bool false]) (by simp [results, Tryd.results57, go_sem, noneV, o0, o1, o2, hout]) rfl HP2.out
        · obtain rfl : k = r.length := by omega
          have hgo := hL.go
          rw [List.drop_length] at hgo
          simp only [altG, Option.map_some, List.append_nil] at hgo
          have hrd := HRD.out
          rw [hgo] at hrd
          have HP : Hid (ReadPost (t :: r) w (.returned (.tuple #[.agg #[.int .i64 (kd : Int), .slice oa ol oc, .int .i64 t.l], .bool true])) (((wr.setCell ⟨w.heap.size, 0, none⟩ (.int .i64 (kd : Int))).setCell ⟨w.heap.size, 1, none⟩ (.slice oa ol oc)).setCell ⟨w.heap.size, 2, none⟩ (.int .i64 t.l))) := by
            refine ⟨((hL.low.setCell (by simp) _).setCell (by simp) _).setCell (by simp) _, .inr ⟨kd, ys, oa, ol, oc, hrd, rfl, ?_⟩⟩
            refine owns_mono (owns_same hL.own fun g hg => ?_) (by omega)
            have := own_blk hL.own hg
            rw [Below.heap_setCell _ _ _ _ (by simp; omega), Below.heap_setCell _ _ _ _ (by simp; omega), Below.heap_setCell _ _ _ _ (by simp; omega)]
          clear hgo hrd
          go_wp2_with fail
          exact bodyPost_ret (v := .tuple #[.agg #[.int .i64 (kd : Int), .slice oa ol oc, .int .i64 t.l], .bool true]) (by simp [results, Tryd.results57, go_sem, o0, o1, o2]) rfl HP.out
    · have hd : ((r.length : Int) != q) = true := by simpa using hlen
      have HP : Hid (ReadPost (t :: r) w (.returned (.tuple #[noneV, .bool false])) (((w.alloc (.cells #[.int .i64 0, .slice none 0 0, .int .i64 0] 106)).alloc (.cells #[.int .i64 t.k, .string S, .int .i64 t.n, .int .i64 t.l] 104))).drew) := ⟨hlow0, .inl ⟨readF_len HKD.out (by rw [hrest]; exact hlen), rfl⟩⟩
      clear hlow0 hra hR hrest
      go_enter Tryd.func57, Tryd.ntmps57
      go_wp2_with fail
      go_region
      go_wp2_with (first | (at_lookup; refine wpList_lookup_own_ok_int _ rfl _ _ 101 rfl 9 3 .i64 keyLaw Tryd.underlying101 Tryd.underlying3 (zeroInt _) B 19 map19 rfl (World.ownsMap.drew hK2) _ _ rfl hkey ?_; intro c' hat hwc; obtain rfl : (kd : Int) = c' := by (have := HAT.out.symm.trans hat; simpa using this)))
      exact bodyPost_ret (v := .tuple #[noneV, .bool false]) (by simp [results, Tryd.results57, go_sem, noneV]) rfl HP.out
end Go.Proofs.YtnhogbgnnnniaaaDoor
namespace Go.Proofs.YtnhogbgnnnniaaaDoor
open Go.RowKit L3 Go.Maps

/-- no End stands first, none behind another -/
def goodT : Bool → List Tk → Prop
  | _, [] => True
  | o, t :: r => if t.k = 4 then o = true ∧ goodT false r else goodT true r
theorem goodT_end {o : Bool} {t : Tk} {r : List Tk} (h : goodT o (t :: r)) (h4 : t.k = 4) : o = true ∧ goodT false r := by simpa [goodT, h4] using h
theorem goodT_on {o : Bool} {t : Tk} {r : List Tk} (h : goodT o (t :: r)) (h4 : ¬ t.k = 4) : goodT true r := by simpa [goodT, h4] using h
/-- the cells of lines -/
def cellsS : List Sm → List Value → List Value
  | s :: r, v :: vs => .int .i64 (s.k : Int) :: v :: .int .i64 s.l :: cellsS r vs
  | _, _ => []
theorem cellsS_snoc : ∀ (all : List Sm) (vals : List Value) (s : Sm) (v : Value), vals.length = all.length → cellsS (all ++ [s]) (vals ++ [v]) = cellsS all vals ++ [.int .i64 (s.k : Int), v, .int .i64 s.l]
  | [], [], s, v, _ => rfl
  | [], _ :: _, _, _, h => by simp at h
  | _ :: _, [], _, _, h => by simp at h
  | a :: all, u :: vals, s, v, h => by
    simp only [List.cons_append, cellsS]
    rw [cellsS_snoc all vals s v (by simpa using h)]
theorem cellsS_at : ∀ (all : List Sm) (vals : List Value) (k : Nat) (h : k < all.length) (h' : k < vals.length), (cellsS all vals)[k * 3]? = some (.int .i64 (all[k].k : Int)) ∧ (cellsS all vals)[k * 3 + 1]? = some vals[k] ∧ (cellsS all vals)[k * 3 + 2]? = some (.int .i64 all[k].l)
  | [], _, k, h, _ => by simp at h
  | _ :: _, [], k, _, h => by simp at h
  | a :: all, u :: vals, 0, _, _ => by simp [cellsS]
  | a :: all, u :: vals, k + 1, h, h' => by
    have := cellsS_at all vals k (by simpa using h) (by simpa using h')
    simp only [cellsS, List.getElem_cons_succ]
    rw [show (k + 1) * 3 = k * 3 + 1 + 1 + 1 by omega]
    simpa using this
/-- a slice of lines, each with its numbers -/
def SlS (w : World) (v : Value) (all : List Sm) : Prop := ∃ a c, v = .slice a all.length c ∧ ∀ k (h : k < all.length), ∃ g f oa ol oc, a = some ⟨g, f, none⟩ ∧ w.cell? ⟨g, f + k * 3, none⟩ = some (.int .i64 (all[k].k : Int)) ∧ w.cell? ⟨g, f + k * 3 + 1, none⟩ = some (.slice oa ol oc) ∧ w.cell? ⟨g, f + k * 3 + 2, none⟩ = some (.int .i64 all[k].l) ∧ SlN w (.slice oa ol oc) all[k].xs
theorem SlS.kept {w w' : World} {v : Value} {all : List Sm} (h : SlS w v all) (hb : Below w.heap.size w w') : SlS w' v all := by
  obtain ⟨a, c, e, hk⟩ := h
  refine ⟨a, c, e, fun k h => ?_⟩
  obtain ⟨g, f, oa, ol, oc, e2, h1, h2, h3, h4⟩ := hk k h
  have st : ∀ {x : Addr} {u : Value}, w.cell? x = some u → w'.cell? x = some u := fun {x} {u} hx => by
    rw [World.cell?_of_block (hb.block _ (World.block_lt_of_cell? w x hx))]
    exact hx
  exact ⟨g, f, oa, ol, oc, e2, st h1, st h2, st h3, h4.kept hb⟩
/-- lines that a call owns -/
structure OwnS (w : World) (B : Nat) (v : Value) (all : List Sm) (vals : List Value) : Prop where
  len : vals.length = all.length
  row : w.ownsRow B 106 3 v all.length (cellsS all vals)
  ops : ∀ k (h : k < all.length) (h' : k < vals.length), ∃ oa ol oc, vals[k] = .slice oa ol oc ∧ w.ownsRow B 3 1 vals[k] all[k].xs.length (cellsN all[k].xs)
theorem OwnS.slS {w : World} {B : Nat} {v : Value} {all : List Sm} {vals : List Value} (h : OwnS w B v all vals) : SlS w v all := by
  rcases h.row.2 with ⟨rfl, h0⟩ | ⟨g, cap, cur, rfl, _⟩
  · exact ⟨none, 0, by rw [h0], fun k hk => by omega⟩
  · refine ⟨some ⟨g, 0, none⟩, cap, rfl, fun k hk => ?_⟩
    have hk' : k < vals.length := by rw [h.len]; exact hk
    obtain ⟨oa, ol, oc, e, ho⟩ := h.ops k hk hk'
    obtain ⟨c0, c1, c2⟩ := cellsS_at all vals k hk hk'
    have at' : ∀ j, j < 3 → w.cell? ⟨g, 0 + k * 3 + j, none⟩ = (cellsS all vals)[k * 3 + j]? := fun j hj => by rw [Nat.zero_add, h.row.cellAt _ (by omega)]
    rw [e] at ho c1
    exact ⟨g, 0, oa, ol, oc, rfl, (at' 0 (by omega)).trans c0, (at' 1 (by omega)).trans c1, (at' 2 (by omega)).trans c2, own_slN ho⟩
theorem OwnS.kept {w w' : World} {B : Nat} {v : Value} {all : List Sm} {vals : List Value} (h : OwnS w B v all vals) (hb : Below w.heap.size w w') : OwnS w' B v all vals :=
  ⟨h.len, owns_same h.row fun g hg => hb.block g (h.row.lt g hg).2, fun k h1 h2 => by
    obtain ⟨oa, ol, oc, e, ho⟩ := h.ops k h1 h2
    exact ⟨oa, ol, oc, e, owns_same ho fun g hg => hb.block g (ho.lt g hg).2⟩⟩
theorem OwnS.push {w w1 w4 : World} {B : Nat} {v v' ov : Value} {all : List Sm} {vals : List Value} {s : Sm} (h : OwnS w B v all vals) (hw : Below w.heap.size w w1) (hgrow : w1.grownBy w4 v.ownBlock)
    (hown : w4.ownsRow B 106 3 v' (all.length + 1) (cellsS all vals ++ [.int .i64 (s.k : Int), ov, .int .i64 s.l]))
    (ho : w1.ownsRow B 3 1 ov s.xs.length (cellsN s.xs)) (hs : ∃ oa ol oc, ov = .slice oa ol oc) : OwnS w4 B v' (all ++ [s]) (vals ++ [ov]) := by
  have hk := h.kept hw
  have keep : ∀ {u : Value} {xs : List Int}, w1.ownsRow B 3 1 u xs.length (cellsN xs) → w4.ownsRow B 3 1 u xs.length (cellsN xs) := fun {u} {xs} hu => owns_same hu fun g hg => hgrow.block g (hu.lt g hg).2 (fun e => own_ne hu hk.row (by decide) g hg e.symm)
  refine ⟨by simp [h.len], ?_, fun k h1 h2 => ?_⟩
  · rw [cellsS_snoc _ _ _ _ h.len]
    simpa using hown
  · by_cases hkk : k < all.length
    · have hk2 : k < vals.length := by rw [h.len]; exact hkk
      rw [List.getElem_append_left hkk, List.getElem_append_left hk2]
      obtain ⟨oa, ol, oc, e, ho'⟩ := hk.ops k hkk hk2
      exact ⟨oa, ol, oc, e, keep ho'⟩
    · have e1 : k = all.length := by simp at h1; omega
      subst e1
      have e2 : (all ++ [s])[all.length]'h1 = s := by simp
      have e3 : (vals ++ [ov])[all.length]'h2 = ov := by rw [List.getElem_append_right (by rw [h.len]; omega)]; simp
      rw [e2, e3]
      obtain ⟨oa, ol, oc, e⟩ := hs
      exact ⟨oa, ol, oc, e, keep ho⟩
def StmPost (T : List Tk) (w : World) (e : Ending) (w' : World) : Prop :=
  Below w.heap.size w w' ∧ ((∃ x, stmF [] [] 0 T = .inl x ∧ e = .returned (.tuple #[.slice none 0 0, .int .i64 x])) ∨
    ∃ all sa sc, stmF [] [] 0 T = .inr all ∧ e = .returned (.tuple #[.slice sa all.length sc, .int .i64 0]) ∧ SlS w' (.slice sa all.length sc) all)
/-- the loop over the tokens, behind k of them -/
structure Stg (w : World) (T : List Tk) (wr : World) (k bg : Nat) (all : List Sm) (last : Int) (v : Value) (vals : List Value) : Prop where
  map : KMap wr w.heap.size
  own : OwnS wr (w.heap.size + 1) v all vals
  low : Below w.heap.size w wr
  big : w.heap.size < wr.heap.size
  bgk : bg ≤ k
  kle : k ≤ T.length
  go : stmF [] [] 0 T = stmF ((T.take k).drop bg) all last (T.drop k)
  good : goodT (decide (bg < k)) (T.drop k)
  l0 : 0 ≤ last
  l1 : last ≤ 9000
  cnt : all.length ≤ k
end Go.Proofs.YtnhogbgnnnniaaaDoor
namespace Go.Proofs.YtnhogbgnnnniaaaDoor
open Go.RowKit L3

def opn (o : Bool) (T : List Tk) : Bool := match T.getLast? with | some t => t.k != 4 | none => o
theorem opn_false (T : List Tk) : opn false T = openT T := rfl
theorem opn_cons (o : Bool) (a : Tk) (T : List Tk) : opn o (a :: T) = opn (a.k != 4) T := by
  cases T with
  | nil => simp [opn]
  | cons b r =>
    unfold opn
    rw [List.getLast?_cons_cons, List.getLast?_eq_some_getLast (by simp)]
theorem goodT_snoc : ∀ (T : List Tk) (o : Bool) (t : Tk), goodT o T → (t.k = 4 → opn o T = true) → goodT o (T ++ [t])
  | [], o, t, _, h4 => by
    simp only [List.nil_append, goodT]
    split
    · exact ⟨by have := h4 (by assumption); simpa [opn] using this, trivial⟩
    · trivial
  | a :: T, o, t, h, h4 => by
    simp only [List.cons_append, goodT] at h ⊢
    split at h
    · rename_i ha
      rw [if_pos ha]
      refine ⟨h.1, goodT_snoc T false t h.2 fun e => ?_⟩
      have := h4 e
      rw [opn_cons, ha] at this
      exact this
    · rename_i ha
      rw [if_neg ha]
      refine goodT_snoc T true t h fun e => ?_
      have := h4 e
      rw [opn_cons, show (a.k != 4) = true by simpa using ha] at this
      exact this
/-- no empty line; words of at most m bytes -/
structure Gd (st : St) (m : Nat) : Prop where
  good : goodT false st.T
  word : ∀ t ∈ st.T, t.s.length ≤ m
theorem Gd.mono {st : St} {m m' : Nat} (h : Gd st m) (hm : m ≤ m') : Gd st m' := ⟨h.good, fun t ht => by have := h.word t ht; omega⟩
theorem Gd.add {T : List Tk} {m : Nat} (hg : goodT false T) (hw : ∀ t ∈ T, t.s.length ≤ m) (t : Tk) (h4 : t.k = 4 → openT T = true) (hs : t.s.length ≤ m) : goodT false (T ++ [t]) ∧ ∀ u ∈ T ++ [t], u.s.length ≤ m :=
  ⟨goodT_snoc T false t hg h4, fun u hu => by
    simp at hu
    rcases hu with hu | rfl
    · exact hw u hu
    · exact hs⟩
theorem Gd.fin {st s : St} {m : Nat} (h : Gd st m) (hb : Bd st m) (hf : finF st = some s) : Gd s m := by
  unfold finF at hf
  split at hf
  · cases hf
  · split at hf
    · obtain rfl := Option.some.inj hf
      have := Gd.add h.good h.word ⟨1, st.ws, 0, st.ln⟩ (by simp) hb.wd
      exact ⟨this.1, this.2⟩
    · split at hf
      · obtain rfl := Option.some.inj hf
        have := Gd.add h.good h.word ⟨2, [], st.num, st.ln⟩ (by simp) (by simp)
        exact ⟨this.1, this.2⟩
      · obtain rfl := Option.some.inj hf
        exact ⟨h.good, h.word⟩
theorem Gd.oth {st s : St} {m : Nat} {c : Int} (h : Gd st m) (hf : othF st c = some s) : Gd s (m + 1) := by
  have h' := h.mono (Nat.le_succ m)
  unfold othF at hf
  split at hf
  · obtain rfl := Option.some.inj hf
    exact h'
  · split at hf
    · obtain rfl := Option.some.inj hf
      by_cases ho : openT st.T = true
      · have := Gd.add h'.good h'.word ⟨4, [], 0, st.ln⟩ (fun _ => ho) (by simp)
        exact ⟨by simpa [St.endL, ho] using this.1, by simpa [St.endL, ho] using this.2⟩
      · exact ⟨by simpa [St.endL, ho] using h'.good, by simpa [St.endL, ho] using h'.word⟩
    · split at hf
      · obtain rfl := Option.some.inj hf
        exact ⟨h'.good, h'.word⟩
      · split at hf
        · obtain rfl := Option.some.inj hf
          exact ⟨h'.good, h'.word⟩
        · split at hf
          · obtain rfl := Option.some.inj hf
            have := Gd.add h'.good h'.word ⟨3, [L3.byteOf c], 0, st.ln⟩ (by simp) (by simp)
            exact ⟨this.1, this.2⟩
          · cases hf
theorem Gd.take {st s : St} {m : Nat} {c : Int} (h : Gd st m) (hb : Bd st m) (hf : takeF st c = some s) : Gd s (m + 1) := by
  have h' := h.mono (Nat.le_succ m)
  unfold takeF at hf
  split at hf
  · obtain rfl := Option.some.inj hf
    exact h'
  · split at hf
    · unfold letF at hf
      split at hf
      · cases hf
      · obtain rfl := Option.some.inj hf
        exact ⟨h'.good, h'.word⟩
    · split at hf
      · unfold digF at hf
        split at hf
        · cases hf
        · split at hf
          · obtain rfl := Option.some.inj hf
            exact ⟨h'.good, h'.word⟩
          · cases hf
      · cases hs : finF st with
        | none => rw [hs] at hf; cases hf
        | some s1 =>
          rw [hs] at hf
          exact (h.fin hb hs).oth hf
theorem Gd.go : ∀ (l : List UInt8) (st s : St) (m : Nat), Gd st m → Bd st m → lexGo st l = .inr s → Gd s (m + l.length)
  | [], st, s, m, h, _, hl => by cases hl; simpa using h
  | x :: r, st, s, m, h, hb, hl => by
    simp only [lexGo] at hl
    cases ht : takeF st x.toNat with
    | none => rw [ht] at hl; cases hl
    | some s1 =>
      rw [ht] at hl
      have := Gd.go r s1 s (m + 1) (h.take hb ht) (takeF_bd hb ht) hl
      rw [List.length_cons, show m + (r.length + 1) = m + 1 + r.length by omega]
      exact this
theorem lexF_good (l : List UInt8) : goodT false (lexF l).1 ∧ ∀ t ∈ (lexF l).1, t.s.length ≤ 9000 := by
  unfold lexF
  split
  · exact ⟨trivial, by simp⟩
  · split
    · exact ⟨trivial, by simp⟩
    · rename_i st hst
      have h := Gd.go _ st0 st 0 ⟨trivial, by simp [st0]⟩ st0_bd hst
      exact ⟨h.good, fun t ht => by have := h.word t ht; simp at this; omega⟩
theorem lexF_toks (l : List UInt8) : ∀ t ∈ (lexF l).1, t.s.length ≤ 9000 ∧ 1 ≤ t.l ∧ t.l ≤ 9000 := fun t ht => ⟨(lexF_good l).2 t ht, lexF_lines l t ht⟩
end Go.Proofs.YtnhogbgnnnniaaaDoor
namespace Go.Proofs.YtnhogbgnnnniaaaDoor
open Go.RowKit L3
open C2 (In Pr bigB shapeI inB)

/-- a token of a line, none of its End -/
structure TkOk (l : Int) (t : Tk) : Prop where
  k : t.k ≠ 4
  l : t.l = l
  w : kindOf t.s ≠ 0 → t.k = 1
  c : t.s = [44] → t.k = 3
inductive Lns : List Tk → Prop
  | nil : Lns []
  | cons (c : List Tk) (E : Tk) (R : List Tk) : c ≠ [] → (∀ t ∈ c, TkOk E.l t) → E.k = 4 → E.s = [] → Lns R → Lns (c ++ E :: R)
theorem Lns.append {A B : List Tk} (h : Lns A) (k : Lns B) : Lns (A ++ B) := by
  induction h with
  | nil => exact k
  | cons c E R h1 h2 h3 h4 _ ih =>
    rw [List.append_assoc, List.cons_append]
    exact .cons c E _ h1 h2 h3 h4 ih
structure LI (st : St) : Prop where
  cut : ∃ A c, st.T = A ++ c ∧ Lns A ∧ ∀ t ∈ c, TkOk st.ln t
  ws : ∀ b ∈ st.ws, b ≠ 44
theorem Lns.shut {A : List Tk} (h : Lns A) : openT A = false := by
  induction h with
  | nil => rfl
  | cons c E R h1 h2 h3 h4 h5 ih =>
    cases R with
    | nil => simp [openT, h3]
    | cons b R =>
      unfold openT at ih ⊢
      rw [List.getLast?_append, List.getLast?_cons_cons]
      cases hl : (b :: R).getLast? with
      | none => simp at hl
      | some t => rw [hl] at ih; simpa using ih
theorem openR_snoc (A : List Tk) {c : List Tk} {l : Int} (hc : c ≠ []) (h : ∀ t ∈ c, TkOk l t) : openT (A ++ c) = true := by
  unfold openT
  rw [List.getLast?_append, List.getLast?_eq_some_getLast hc]
  have := (h _ (List.getLast_mem hc)).k
  simpa using this
theorem LI.endL {st : St} (h : LI st) : Lns st.endL.T := by
  obtain ⟨A, c, hT, hA, hc⟩ := h.cut
  unfold St.endL
  simp only
  by_cases e : c = []
  · subst e
    rw [hT, List.append_nil, hA.shut]
    exact hA
  · rw [hT, if_pos (openR_snoc A e hc), List.append_assoc]
    exact hA.append (.cons c ⟨4, [], 0, st.ln⟩ [] e hc rfl rfl .nil)
theorem LI.add {T : List Tk} {ln : Int} (h : ∃ A c, T = A ++ c ∧ Lns A ∧ ∀ t ∈ c, TkOk ln t) {t : Tk} (ht : TkOk ln t) : ∃ A c, T ++ [t] = A ++ c ∧ Lns A ∧ ∀ t ∈ c, TkOk ln t := by
  obtain ⟨A, c, rfl, hA, hc⟩ := h
  refine ⟨A, c ++ [t], by rw [List.append_assoc], hA, fun u hu => ?_⟩
  simp at hu
  rcases hu with hu | rfl
  · exact hc u hu
  · exact ht
theorem kind_none : kindOf [] = 0 := by decide
theorem kind_58 : kindOf [L3.byteOf 58] = 0 := by decide
theorem kind_44 : kindOf [L3.byteOf 44] = 0 := by decide
theorem LI.fin {st s : St} (h : LI st) (hf : finF st = some s) : LI s ∧ s.ln = st.ln := by
  unfold finF at hf
  split at hf
  · cases hf
  · split at hf
    · obtain rfl := Option.some.inj hf
      exact ⟨⟨LI.add h.cut ⟨by simp, rfl, fun _ => rfl, fun e => by
        have e2 : st.ws = [44] := e
        exact absurd rfl (h.ws 44 (by rw [e2]; simp))⟩, by simp⟩, rfl⟩
    · split at hf
      · obtain rfl := Option.some.inj hf
        exact ⟨⟨LI.add h.cut ⟨by simp, rfl, fun e => absurd kind_none e, fun e => by simp at e⟩, h.ws⟩, rfl⟩
      · obtain rfl := Option.some.inj hf
        exact ⟨⟨h.cut, h.ws⟩, rfl⟩
theorem LI.oth {st s : St} {c : Int} (h : LI st) (hf : othF st c = some s) : LI s := by
  unfold othF at hf
  split at hf
  · obtain rfl := Option.some.inj hf
    exact h
  · split at hf
    · obtain rfl := Option.some.inj hf
      exact ⟨⟨st.endL.T, [], by simp, h.endL, by simp⟩, h.ws⟩
    · split at hf
      · obtain rfl := Option.some.inj hf
        exact ⟨h.cut, h.ws⟩
      · split at hf
        · obtain rfl := Option.some.inj hf
          exact ⟨h.cut, h.ws⟩
        · split at hf
          · rename_i hc
            obtain rfl := Option.some.inj hf
            refine ⟨LI.add h.cut ⟨by simp, rfl, fun e => ?_, fun _ => rfl⟩, h.ws⟩
            exfalso
            rcases hc with rfl | rfl
            · exact e kind_58
            · exact e kind_44
          · cases hf
theorem letter_ne {c : Int} (h1 : 97 ≤ c) (h2 : c ≤ 122) : L3.byteOf c ≠ 44 := by
  intro e
  have : (L3.byteOf c).toNat = c.toNat % 256 := by simp [L3.byteOf]
  rw [e] at this
  have e2 : (44 : UInt8).toNat = 44 := rfl
  omega
theorem LI.take {st s : St} {c : Int} (h : LI st) (hf : takeF st c = some s) : LI s := by
  unfold takeF at hf
  split at hf
  · obtain rfl := Option.some.inj hf
    exact h
  · split at hf
    · rename_i hc
      unfold letF at hf
      split at hf
      · cases hf
      · obtain rfl := Option.some.inj hf
        refine ⟨h.cut, fun b hb => ?_⟩
        simp at hb
        rcases hb with hb | rfl
        · exact h.ws b hb
        · exact letter_ne hc.1 hc.2
    · split at hf
      · unfold digF at hf
        split at hf
        · cases hf
        · split at hf
          · obtain rfl := Option.some.inj hf
            exact ⟨h.cut, h.ws⟩
          · cases hf
      · cases hs : finF st with
        | none => rw [hs] at hf; cases hf
        | some s1 =>
          rw [hs] at hf
          exact (h.fin hs).1.oth hf
theorem LI.go : ∀ (l : List UInt8) (st s : St), LI st → lexGo st l = .inr s → LI s
  | [], st, s, h, hl => by cases hl; exact h
  | x :: r, st, s, h, hl => by
    simp only [lexGo] at hl
    cases ht : takeF st x.toNat with
    | none => rw [ht] at hl; cases hl
    | some s1 =>
      rw [ht] at hl
      exact LI.go r s1 s (h.take ht) hl
theorem lexF_lns (l : List UInt8) : Lns (lexF l).1 := by
  unfold lexF
  split
  · exact .nil
  · split
    · exact .nil
    · rename_i st hst
      rw [lexGo_append] at hst
      cases h1 : lexGo st0 l with
      | inl x => rw [h1] at hst; simp at hst
      | inr s1 =>
        rw [h1] at hst
        have hI := LI.go l st0 s1 ⟨⟨[], [], rfl, .nil, by simp⟩, by simp [st0]⟩ h1
        simp only [lexGo] at hst
        have e10 : (((10 : UInt8).toNat : Nat) : Int) = 10 := rfl
        rw [e10] at hst
        unfold takeF at hst
        rw [if_neg (by simp), if_neg (by omega), if_neg (by omega)] at hst
        cases hs : finF s1 with
        | none => rw [hs] at hst; simp at hst
        | some s2 =>
          rw [hs] at hst
          have ho : othF s2 10 = some s2.endL := by unfold othF; rw [if_neg (by omega), if_pos rfl]
          simp only [Option.bind_some, ho] at hst
          obtain rfl := Sum.inr.inj hst
          exact (hI.fin hs).1.endL
/-! the reference's way: what is left of the tokens, or none: something was wrong -/
def isO (k : Int) (x : List UInt8) : Option (List Tk) → Bool
  | some (t :: _) => decide (t.k = k) && decide (t.s = x)
  | _ => false
def mustO (k : Int) (x : List UInt8) (o : Option (List Tk)) : Option (List Tk) := if isO k x o = true then o.map List.tail else none
def numB : Option (List Tk) → Bool
  | some (t :: _) => decide (t.k = 2)
  | _ => false
def numO (o : Option (List Tk)) : Option (List Tk) := if numB o = true then o.map List.tail else none
def numV (o : Option (List Tk)) : Int := if numB o = true then (match o with | some (t :: _) => t.n | _ => 0) else 0
def opTo (o : Option (List Tk)) : Nat → Nat
  | 0 => 0
  | n + 1 => if isO 1 (wordOf (n + 1)) o = true then n + 1 else opTo o n
def preO (k : Nat) (o : Option (List Tk)) : Option (List Tk) := if k = 0 then o else mustO 3 [44] o
def opsO (o : Option (List Tk)) : Nat → Option (List Tk)
  | 0 => o
  | k + 1 => numO (preO k (opsO o k))
def opsV (o : Option (List Tk)) : Nat → List Int
  | 0 => []
  | k + 1 => opsV o k ++ [numV (preO k (opsO o k))]
theorem opsV_length (o : Option (List Tk)) : ∀ k, (opsV o k).length = k
  | 0 => rfl
  | k + 1 => by simp [opsV, opsV_length o k]
def insN (o : Option (List Tk)) : Nat := opTo o 15
def insO (o : Option (List Tk)) : Option (List Tk) := if insN o = 0 then none else mustO 4 [] (opsO (o.map List.tail) (opsOf (insN o)).toNat)
def insVR (o : Option (List Tk)) : In := if insN o = 0 then ⟨0, 0, 0, 0⟩ else insOf (insN o) (opsV (o.map List.tail) (opsOf (insN o)).toNat)
def firstO (x : List UInt8) (o : Option (List Tk)) : Option (List Tk) := mustO 4 [] (numO (mustO 1 x o))
def firstV (x : List UInt8) (o : Option (List Tk)) : Int := numV (mustO 1 x o)
def lineO (T R : List Tk) : Int := match R with
  | t :: _ => t.l
  | [] => match T.getLast? with
    | some t => t.l + 1
    | none => 1
def offI (off l : Int) (ok : Bool) : Int := if ok = false ∧ off = 0 then l else off
theorem opTo_le (o : Option (List Tk)) : ∀ n, opTo o n ≤ n
  | 0 => Nat.le_refl _
  | n + 1 => by
    unfold opTo
    split
    · omega
    · have := opTo_le o n; omega
theorem insN_le (o : Option (List Tk)) : insN o ≤ 15 := opTo_le o 15
theorem opTo_none : ∀ n, opTo none n = 0
  | 0 => rfl
  | n + 1 => by simp [opTo, isO, opTo_none n]
theorem opTo_nil : ∀ n, opTo (some []) n = 0
  | 0 => rfl
  | n + 1 => by simp [opTo, isO, opTo_nil n]
theorem opTo_some {t : Tk} {R : List Tk} (h : t.k = 1) : ∀ n, opTo (some (t :: R)) n = kindTo n t.s
  | 0 => rfl
  | n + 1 => by
    unfold opTo kindTo
    rw [opTo_some h n]
    simp [isO, h]
theorem opTo_other {t : Tk} {R : List Tk} (h : t.k ≠ 1) : ∀ n, opTo (some (t :: R)) n = 0
  | 0 => rfl
  | n + 1 => by simp [opTo, isO, h, opTo_other h n]
theorem kindTo_word : ∀ (n : Nat) (s : List UInt8), kindTo n s ≠ 0 → s = wordOf (kindTo n s)
  | 0, _, h => absurd rfl h
  | n + 1, s, h => by
    unfold kindTo at h ⊢
    split
    · assumption
    · rename_i hs
      rw [if_neg hs] at h
      exact kindTo_word n s h
theorem kind_own : ∀ j, j ≤ 15 → j ≠ 0 → kindOf (wordOf j) = j := by decide
theorem kind_down (n : Nat) (s : List UInt8) (h : kindTo (n + 1) s ≤ n) : kindTo (n + 1) s = kindTo n s := by
  by_cases hs : s = wordOf (n + 1)
  · have : kindTo (n + 1) s = n + 1 := if_pos hs
    omega
  · exact if_neg hs
theorem kind_15 (s : List UInt8) : kindTo 15 s = if kindOf s ≤ 15 then kindOf s else 0 := by
  by_cases h : kindTo 15 s = 0
  · have h2 : kindOf s ≤ 15 → kindOf s = kindTo 15 s := fun hl => by
      unfold kindOf at hl ⊢
      have a1 : kindTo 19 s = kindTo 18 s := kind_down 18 s (by show kindTo 19 s ≤ 18; omega)
      have a2 : kindTo 18 s = kindTo 17 s := kind_down 17 s (by show kindTo 18 s ≤ 17; omega)
      have a3 : kindTo 17 s = kindTo 16 s := kind_down 16 s (by show kindTo 17 s ≤ 16; omega)
      have a4 : kindTo 16 s = kindTo 15 s := kind_down 15 s (by show kindTo 16 s ≤ 15; omega)
      omega
    split
    · rename_i hl
      exact (h2 hl).symm
    · exact h
  · have h1 := kindTo_word 15 s h
    have h2 := kind_own _ (kindTo_le 15 s) h
    rw [← h1] at h2
    have h3 := kindTo_le 15 s
    rw [if_pos (by omega), h2]
end Go.Proofs.YtnhogbgnnnniaaaDoor
namespace Go.Proofs.YtnhogbgnnnniaaaDoor
open Go.RowKit L3
open C2 (In Pr bigB shapeI inB)

theorem numO_none : numO none = none := rfl
theorem mustO_none (k : Int) (x : List UInt8) : mustO k x none = none := rfl
theorem num_yes {t : Tk} (h : t.k = 2) (R : List Tk) : numO (some (t :: R)) = some R ∧ numV (some (t :: R)) = t.n := by simp [numO, numV, numB, h]
theorem num_no {t : Tk} (h : t.k ≠ 2) (R : List Tk) : numO (some (t :: R)) = none := by simp [numO, numB, h]
theorem must_yes {t : Tk} {k : Int} {x : List UInt8} (h1 : t.k = k) (h2 : t.s = x) (R : List Tk) : mustO k x (some (t :: R)) = some R := by simp [mustO, isO, h1, h2]
theorem must_k {t : Tk} {k : Int} {x : List UInt8} (h1 : t.k ≠ k) (R : List Tk) : mustO k x (some (t :: R)) = none := by simp [mustO, isO, h1]
theorem must_s {t : Tk} {k : Int} {x : List UInt8} (h1 : t.s ≠ x) (R : List Tk) : mustO k x (some (t :: R)) = none := by simp [mustO, isO, h1]
def FO : Nat → Option (List Tk) → Option (List Tk)
  | 0, o => mustO 4 [] (numO o)
  | m + 1, o => FO m (mustO 3 [44] (numO o))
def FV : Nat → Option (List Tk) → List Int
  | 0, o => [numV o]
  | m + 1, o => numV o :: FV m (mustO 3 [44] (numO o))
theorem FO_none : ∀ m, FO m none = none
  | 0 => rfl
  | m + 1 => FO_none m
theorem altG_two : ∀ (r : List Tk) (k : Nat), altG (k + 2) r = altG k r
  | [], k => rfl
  | t :: r, k => by
    unfold altG
    rw [show k + 2 + 1 = k + 1 + 2 by omega, altG_two r (k + 1), show (k + 2) % 2 = k % 2 by omega]
def opsG (n : Int) (r : List Tk) : Option (List Int) := if (r.length : Int) = n then altG 0 r else none
theorem FO_line {E : Tk} (hk : E.k = 4) (hs : E.s = []) (R : List Tk) : ∀ (m : Nat) (r : List Tk), (∀ t ∈ r, TkOk E.l t) → match opsG (2 * m + 1) r with
    | none => FO m (some (r ++ E :: R)) = none
    | some xs => FO m (some (r ++ E :: R)) = some R ∧ FV m (some (r ++ E :: R)) = xs
  | 0, [], _ => by
    simp only [opsG, List.length_nil, List.nil_append, FO]
    rw [if_neg (by omega), num_no (by omega)]
    rfl
  | m + 1, [], _ => by
    simp only [opsG, List.length_nil, List.nil_append, FO]
    rw [if_neg (by omega), num_no (by omega), mustO_none, FO_none]
  | 0, [a], h => by
    simp only [opsG, List.length_singleton, List.singleton_append, FO, FV]
    rw [if_pos (by omega)]
    by_cases h2 : a.k = 2
    · rw [(num_yes h2 _).1, (num_yes h2 _).2, must_yes hk hs]
      simp [altG, h2]
    · rw [num_no h2]
      simp [altG, h2, mustO_none]
  | m + 1, [a], h => by
    simp only [opsG, List.length_singleton, List.singleton_append, FO]
    rw [if_neg (by omega)]
    by_cases h2 : a.k = 2
    · rw [(num_yes h2 _).1, must_k (by omega), FO_none]
    · rw [num_no h2, mustO_none, FO_none]
  | 0, a :: b :: r, h => by
    simp only [opsG, List.length_cons, List.cons_append, FO]
    rw [if_neg (by omega)]
    by_cases h2 : a.k = 2
    · rw [(num_yes h2 _).1, must_k (h b (by simp)).k]
    · rw [num_no h2, mustO_none]
  | m + 1, a :: b :: r, h => by
    have ih := FO_line hk hs R m r fun t ht => h t (by simp [ht])
    have hb := h b (by simp)
    by_cases h2 : a.k = 2
    · by_cases h3 : b.s = [44]
      · have e1 : opsG (2 * ((m + 1 : Nat) : Int) + 1) (a :: b :: r) = (opsG (2 * (m : Int) + 1) r).map (a.n :: ·) := by
          unfold opsG
          by_cases hl : (r.length : Int) = 2 * (m : Int) + 1
          · rw [if_pos (by simp only [List.length_cons]; omega), if_pos hl]
            simp only [altG, Nat.zero_mod, if_true, if_pos h2, if_pos h3]
            rw [if_neg (by omega), altG_two r 0]
          · rw [if_neg (by simp only [List.length_cons]; omega), if_neg hl]
            rfl
        rw [e1]
        simp only [List.cons_append, FO, FV]
        rw [(num_yes h2 _).1, (num_yes h2 _).2, must_yes (hb.c h3) h3]
        cases hg : opsG (2 * (m : Int) + 1) r with
        | none => rw [hg] at ih; simpa using ih
        | some xs => rw [hg] at ih; simpa using ih
      · have e1 : opsG (2 * ((m + 1 : Nat) : Int) + 1) (a :: b :: r) = none := by
          unfold opsG
          split
          · simp [altG, h2, h3]
          · rfl
        rw [e1]
        simp only [List.cons_append, FO]
        rw [(num_yes h2 _).1, must_s h3, FO_none]
    · have e1 : opsG (2 * ((m + 1 : Nat) : Int) + 1) (a :: b :: r) = none := by
        unfold opsG
        split
        · simp [altG, h2]
        · rfl
      rw [e1]
      simp only [List.cons_append, FO]
      rw [num_no h2, mustO_none, FO_none]
theorem ops_FO (o : Option (List Tk)) : ∀ m, m < 3 → mustO 4 [] (opsO o (m + 1)) = FO m o ∧ opsV o (m + 1) = FV m o
  | 0, _ => ⟨rfl, rfl⟩
  | 1, _ => ⟨rfl, rfl⟩
  | 2, _ => ⟨rfl, rfl⟩
theorem ops_line {E : Tk} (hk : E.k = 4) (hs : E.s = []) (R : List Tk) (n : Nat) (hn : n ≤ 3) (r : List Tk) (h : ∀ t ∈ r, TkOk E.l t) : match opsG (max 0 (2 * (n : Int) - 1)) r with
    | none => mustO 4 [] (opsO (some (r ++ E :: R)) n) = none
    | some xs => mustO 4 [] (opsO (some (r ++ E :: R)) n) = some R ∧ opsV (some (r ++ E :: R)) n = xs := by
  cases n with
  | zero =>
    cases r with
    | nil =>
      have e : opsG (max 0 (2 * ((0 : Nat) : Int) - 1)) [] = some [] := by unfold opsG; rw [if_pos (by simp only [List.length_nil]; omega)]; rfl
      rw [e]
      exact ⟨must_yes hk hs R, rfl⟩
    | cons a r =>
      have e : opsG (max 0 (2 * ((0 : Nat) : Int) - 1)) (a :: r) = none := by unfold opsG; rw [if_neg (by simp only [List.length_cons]; omega)]
      rw [e]
      exact must_k (h a (by simp)).k _
  | succ m =>
    have e : max 0 (2 * ((m + 1 : Nat) : Int) - 1) = 2 * (m : Int) + 1 := by omega
    rw [e, (ops_FO _ m (by omega)).1, (ops_FO _ m (by omega)).2]
    exact FO_line hk hs R m r h
theorem insN_line {t : Tk} {R : List Tk} {l : Int} (h : TkOk l t) : insN (some (t :: R)) = if kindOf t.s ≤ 15 then kindOf t.s else 0 := by
  unfold insN
  rw [← kind_15]
  by_cases h1 : t.k = 1
  · exact opTo_some h1 15
  · rw [opTo_other h1]
    have h0 : kindOf t.s = 0 := by
      by_cases e : kindOf t.s = 0
      · exact e
      · exact absurd (h.w e) h1
    rw [kind_15, h0]
    rfl
theorem readF_cons (t : Tk) (r : List Tk) : readF (t :: r) = if kindOf t.s = 0 then none else (opsG (max 0 (2 * opsOf (kindOf t.s) - 1)) r).map fun xs => (kindOf t.s, xs) := by
  rw [show max 0 (2 * opsOf (kindOf t.s) - 1) = restOf (kindOf t.s) from rfl]
  simp only [readF, opsG]
  by_cases h0 : kindOf t.s = 0
  · rw [if_pos h0, if_pos h0]
  · rw [if_neg h0, if_neg h0]
    by_cases h1 : (r.length : Int) = restOf (kindOf t.s)
    · rw [if_pos h1, if_pos h1]
    · rw [if_neg h1, if_neg h1]
      rfl
/-- an instruction's line -/
theorem ins_line {t E : Tk} (hk : E.k = 4) (hs : E.s = []) (R r : List Tk) (h : ∀ u ∈ t :: r, TkOk E.l u) : match readF (t :: r) with
    | none => insO (some (t :: r ++ E :: R)) = none
    | some (k, xs) => if k ≤ 15 then insO (some (t :: r ++ E :: R)) = some R ∧ insVR (some (t :: r ++ E :: R)) = insOf k xs else insO (some (t :: r ++ E :: R)) = none := by
  have ht := h t (by simp)
  have hr : ∀ u ∈ r, TkOk E.l u := fun u hu => h u (by simp [hu])
  have hN := insN_line (R := r ++ E :: R) ht
  have hb := opsOf_bd (kindOf t.s)
  rw [readF_cons]
  unfold insO insVR
  rw [List.cons_append, hN]
  simp only [Option.map_some, List.tail_cons]
  by_cases h0 : kindOf t.s = 0
  · rw [if_pos h0]
    simp [h0]
  · rw [if_neg h0]
    by_cases h15 : kindOf t.s ≤ 15
    · rw [if_pos h15, if_neg h0, if_neg h0]
      have hl := ops_line hk hs R (opsOf (kindOf t.s)).toNat (by omega) r hr
      rw [show (((opsOf (kindOf t.s)).toNat : Nat) : Int) = opsOf (kindOf t.s) by omega] at hl
      cases hg : opsG (max 0 (2 * opsOf (kindOf t.s) - 1)) r with
      | none => rw [hg] at hl; simpa using hl
      | some xs =>
        rw [hg] at hl
        simp only at hl
        simp only [Option.map_some]
        rw [if_pos h15]
        exact ⟨hl.1, by rw [hl.2]⟩
    · rw [if_neg h15, if_pos rfl]
      cases opsG (max 0 (2 * opsOf (kindOf t.s) - 1)) r with
      | none => simp
      | some xs => simp [h15]
theorem kind_own' : ∀ j, j ≤ 19 → j ≠ 0 → kindOf (wordOf j) = j := by decide
theorem word_kind {s : List UInt8} {j : Nat} (h1 : j ≤ 19) (h0 : j ≠ 0) : s = wordOf j ↔ kindOf s = j := by
  constructor
  · rintro rfl
    exact kind_own' j h1 h0
  · intro e
    have := kindTo_word 19 s (by show kindOf s ≠ 0; omega)
    rw [this]
    show wordOf (kindOf s) = wordOf j
    rw [e]
theorem is_word {t : Tk} {l : Int} (h : TkOk l t) (R : List Tk) {j : Nat} (h1 : j ≤ 19) (h0 : j ≠ 0) : isO 1 (wordOf j) (some (t :: R)) = decide (kindOf t.s = j) := by
  simp only [isO]
  by_cases e : kindOf t.s = j
  · have hw := (word_kind (s := t.s) h1 h0).2 e
    rw [decide_eq_true (h.w (by omega)), decide_eq_true hw, decide_eq_true e]
    rfl
  · have hw : t.s ≠ wordOf j := fun hh => e ((word_kind h1 h0).1 hh)
    simp [hw, e]
theorem must_word {t : Tk} {l : Int} (h : TkOk l t) (R : List Tk) {j : Nat} (h1 : j ≤ 19) (h0 : j ≠ 0) : mustO 1 (wordOf j) (some (t :: R)) = if kindOf t.s = j then some R else none := by
  unfold mustO
  rw [is_word h R h1 h0]
  by_cases e : kindOf t.s = j <;> simp [e]
/-- one of the first three lines -/
theorem first_line {t E : Tk} (hk : E.k = 4) (hs : E.s = []) (R r : List Tk) (h : ∀ u ∈ t :: r, TkOk E.l u) {j : Nat} (h1 : j = 16 ∨ j = 17 ∨ j = 18) : match readF (t :: r) with
    | none => firstO (wordOf j) (some (t :: r ++ E :: R)) = none
    | some (k, xs) => if k = j then firstO (wordOf j) (some (t :: r ++ E :: R)) = some R ∧ firstV (wordOf j) (some (t :: r ++ E :: R)) = x0 xs else firstO (wordOf j) (some (t :: r ++ E :: R)) = none := by
  have ht := h t (by simp)
  have hr : ∀ u ∈ r, TkOk E.l u := fun u hu => h u (by simp [hu])
  rw [readF_cons]
  unfold firstO firstV
  rw [List.cons_append, must_word ht _ (by omega) (by omega)]
  by_cases hj : kindOf t.s = j
  · rw [if_pos hj, if_neg (by omega)]
    have ho : opsOf (kindOf t.s) = 1 := by rw [hj]; rcases h1 with rfl | rfl | rfl <;> rfl
    have hl := FO_line hk hs R 0 r hr
    rw [ho, show max 0 (2 * (1 : Int) - 1) = 2 * ((0 : Nat) : Int) + 1 by omega]
    cases hg : opsG (2 * ((0 : Nat) : Int) + 1) r with
    | none => rw [hg] at hl; simpa [FO] using hl
    | some xs =>
      rw [hg] at hl
      simp only [FO, FV] at hl
      simp only [Option.map_some]
      rw [if_pos hj]
      exact ⟨hl.1, by rw [← hl.2]; rfl⟩
  · rw [if_neg hj]
    split
    · rfl
    · rename_i k xs hh
      have : k ≠ j := by
        split at hh
        · simp at hh
        · cases hg : opsG (max 0 (2 * opsOf (kindOf t.s) - 1)) r with
          | none => rw [hg] at hh; simp at hh
          | some ys => rw [hg] at hh; simp at hh; omega
      rw [if_neg this]
      rfl
/-- a function's line -/
theorem fun_line {t E : Tk} (hk : E.k = 4) (hs : E.s = []) (R r : List Tk) (h : ∀ u ∈ t :: r, TkOk E.l u) (h19 : kindOf t.s = 19) : match readF (t :: r) with
    | none => mustO 4 [] (some (r ++ E :: R)) = none
    | some (k, xs) => k = 19 ∧ xs = [] ∧ mustO 4 [] (some (r ++ E :: R)) = some R := by
  have hr : ∀ u ∈ r, TkOk E.l u := fun u hu => h u (by simp [hu])
  rw [readF_cons, if_neg (by omega), h19]
  have hl := ops_line hk hs R 0 (by omega) r hr
  rw [show max 0 (2 * opsOf 19 - 1) = max 0 (2 * ((0 : Nat) : Int) - 1) from rfl]
  cases hg : opsG (max 0 (2 * ((0 : Nat) : Int) - 1)) r with
  | none => rw [hg] at hl; simpa [opsO] using hl
  | some xs =>
    rw [hg] at hl
    simp only [opsO, opsV] at hl
    simp only [Option.map_some]
    exact ⟨trivial, hl.2.symm, hl.1⟩
theorem stmF_line : ∀ (c cur : List Tk) (all : List Sm) (last : Int) (E : Tk) (R : List Tk), (∀ t ∈ c, t.k ≠ 4) → E.k = 4 → stmF cur all last (c ++ E :: R) = match readF (cur ++ c) with
    | none => .inl E.l
    | some (k, xs) => if followsB all.length k then stmF [] (all ++ [⟨k, xs, lineOf (cur ++ c)⟩]) E.l R else .inl E.l
  | [], cur, all, last, E, R, _, hk => by
    rw [List.nil_append, List.append_nil]
    conv => lhs; unfold stmF
    rw [if_neg (by simp [hk])]
    cases readF cur with
    | none => rfl
    | some y => rfl
  | t :: c, cur, all, last, E, R, h, hk => by
    rw [List.cons_append]
    conv => lhs; unfold stmF
    rw [if_pos (h t (by simp)), stmF_line c (cur ++ [t]) all last E R (fun u hu => h u (by simp [hu])) hk]
    rw [List.append_assoc, List.singleton_append]
end Go.Proofs.YtnhogbgnnnniaaaDoor
namespace Go.Proofs.YtnhogbgnnnniaaaDoor
open Go.RowKit L3
open C2 (In Pr bigB shapeI inB)

def lastL (T : List Tk) : Int := match T.getLast? with
  | some t => t.l
  | none => 0
structure RI (T R : List Tk) (all : List Sm) (last : Int) : Prop where
  eq : stmF [] [] 0 T = stmF [] all last R
  oks : Oks all
  lns : Lns R
  pos : ∀ s ∈ all, 1 ≤ s.l
  pre : ∃ T1, T = T1 ++ R ∧ lastL T1 = last
theorem RI.start {T : List Tk} (h : Lns T) : RI T T [] 0 := ⟨rfl, oks_nil, h, by simp, [], rfl, rfl⟩
theorem Lns.open {R : List Tk} (h : Lns R) (hne : R ≠ []) : ∃ t r E R', R = t :: r ++ E :: R' ∧ (∀ u ∈ t :: r, TkOk E.l u) ∧ E.k = 4 ∧ E.s = [] ∧ Lns R' := by
  cases h with
  | nil => exact absurd rfl hne
  | cons c E R' h1 h2 h3 h4 h5 =>
    cases c with
    | nil => exact absurd rfl h1
    | cons t r => exact ⟨t, r, E, R', rfl, h2, h3, h4, h5⟩
theorem lineO_cons (T : List Tk) (t : Tk) (R : List Tk) : lineO T (t :: R) = t.l := rfl
theorem lineO_nil (T : List Tk) : lineO T [] = lastL T + 1 := by
  unfold lineO lastL
  cases T.getLast? <;> rfl
section
variable {T : List Tk} {all : List Sm} {last : Int}
theorem RI.next {t : Tk} {r : List Tk} {E : Tk} {R' : List Tk} (h : RI T (t :: r ++ E :: R') all last) (hk : E.k = 4) (hc : ∀ u ∈ t :: r, TkOk E.l u) (hl : ∀ u ∈ T, 1 ≤ u.l) (hR : Lns R') {k : Nat} {xs : List Int} (hr : readF (t :: r) = some (k, xs)) (hf : followsB all.length k = true) : RI T R' (all ++ [⟨k, xs, t.l⟩]) E.l := by
  obtain ⟨T1, hT, -⟩ := h.pre
  obtain ⟨h1, h2, h3⟩ := readF_ok hr
  refine ⟨?_, h.oks.snoc ⟨h1, h2, h3, hf⟩, hR, fun s hs => ?_, T1 ++ (t :: r) ++ [E], by rw [hT]; simp, by unfold lastL; rw [List.getLast?_concat]⟩
  · rw [h.eq, stmF_line (t :: r) [] all last E R' (fun u hu => (hc u hu).k) hk, List.nil_append, hr]
    simp only [hf, if_true]
    rfl
  · simp at hs
    rcases hs with hs | rfl
    · exact h.pos s hs
    · exact hl t (by rw [hT]; simp)
theorem RI.none {t : Tk} {r : List Tk} {E : Tk} {R' : List Tk} (h : RI T (t :: r ++ E :: R') all last) (hk : E.k = 4) (hc : ∀ u ∈ t :: r, TkOk E.l u) (hr : readF (t :: r) = none) : stmF [] [] 0 T = .inl t.l := by
  rw [h.eq, stmF_line (t :: r) [] all last E R' (fun u hu => (hc u hu).k) hk, List.nil_append, hr, (hc t (by simp)).l]
theorem RI.wrong {t : Tk} {r : List Tk} {E : Tk} {R' : List Tk} (h : RI T (t :: r ++ E :: R') all last) (hk : E.k = 4) (hc : ∀ u ∈ t :: r, TkOk E.l u) {k : Nat} {xs : List Int} (hr : readF (t :: r) = some (k, xs)) (hf : followsB all.length k = false) : stmF [] [] 0 T = .inl t.l := by
  rw [h.eq, stmF_line (t :: r) [] all last E R' (fun u hu => (hc u hu).k) hk, List.nil_append, hr, (hc t (by simp)).l]
  simp [hf]
/-- one of the first three lines -/
theorem first_step {R : List Tk} (h : RI T R all last) (hl : ∀ u ∈ T, 1 ≤ u.l) {j : Nat} (hj : j = 16 + all.length) (h3 : all.length ≤ 2) :
    (firstO (wordOf j) (some R) = none ∧ stmF [] [] 0 T = .inl (lineO T R)) ∨ ∃ R' xs l', firstO (wordOf j) (some R) = some R' ∧ x0 xs = firstV (wordOf j) (some R) ∧ RI T R' (all ++ [⟨j, xs, lineO T R⟩]) l' := by
  by_cases hne : R = []
  · subst hne
    refine .inl ⟨rfl, ?_⟩
    obtain ⟨T1, hT, hla⟩ := h.pre
    rw [h.eq, lineO_nil, hT, List.append_nil, hla]
    unfold stmF
    rw [if_pos h3]
  · obtain ⟨t, r, E, R', rfl, hc, hk, hs, hR⟩ := h.lns.open hne
    have hf := first_line hk hs R' r hc (j := j) (by omega)
    rw [List.cons_append, lineO_cons]
    rw [List.cons_append] at hf
    cases hr : readF (t :: r) with
    | none =>
      rw [hr] at hf
      exact .inl ⟨hf, h.none hk hc hr⟩
    | some y =>
      obtain ⟨k, xs⟩ := y
      rw [hr] at hf
      simp only at hf
      by_cases e : k = j
      · subst e
        rw [if_pos rfl] at hf
        refine .inr ⟨R', xs, E.l, hf.1, hf.2.symm, h.next hk hc hl hR hr ?_⟩
        unfold followsB
        rw [if_pos (by omega)]
        simp [hj]
      · rw [if_neg e] at hf
        refine .inl ⟨hf, h.wrong hk hc hr ?_⟩
        unfold followsB
        rw [if_pos (by omega)]
        simp
        omega
theorem fs_three (h : Oks all) (h3 : all.length = 3) : (progF all).fs = [] := by
  match all, h3 with
  | [a, b, c], _ =>
    have ha := (h 0 (by simp)).fol
    have hb := (h 1 (by simp)).fol
    have hc := (h 2 (by simp)).fol
    simp [followsB] at ha hb hc
    simp [progF, stepP, ha, hb, hc, pr0]
theorem fs_more (h : Oks all) (h4 : 4 ≤ all.length) : (progF all).fs ≠ [] := by
  have := progF_fs h all.length h4 (Nat.le_refl _)
  rw [List.take_length] at this
  intro e
  rw [e] at this
  simp at this
/-- a line behind the first three -/
theorem round_step {R : List Tk} (h : RI T R all last) (hl : ∀ u ∈ T, 1 ≤ u.l) (h3 : 3 ≤ all.length) (hne : R ≠ []) :
    (isO 1 (wordOf 19) (some R) = true ∧ ((mustO 4 [] (some R.tail) = none ∧ stmF [] [] 0 T = .inl (lineO T R)) ∨ ∃ R' l', R'.length < R.length ∧ mustO 4 [] (some R.tail) = some R' ∧ RI T R' (all ++ [⟨19, [], lineO T R⟩]) l')) ∨
    (isO 1 (wordOf 19) (some R) = false ∧ ((insO (some R) = none ∧ stmF [] [] 0 T = .inl (lineO T R)) ∨ ((progF all).fs = [] ∧ stmF [] [] 0 T = .inl (lineO T R)) ∨ ∃ R' k xs l', R'.length < R.length ∧ (progF all).fs ≠ [] ∧ k ≤ 15 ∧ insO (some R) = some R' ∧ insVR (some R) = insOf k xs ∧ RI T R' (all ++ [⟨k, xs, lineO T R⟩]) l')) := by
  obtain ⟨t, r, E, R', rfl, hc, hk, hs, hR⟩ := h.lns.open hne
  rw [List.cons_append, lineO_cons, is_word (hc t (by simp)) _ (by omega) (by omega), List.tail_cons]
  by_cases h19 : kindOf t.s = 19
  · refine .inl ⟨decide_eq_true h19, ?_⟩
    have hf := fun_line hk hs R' r hc h19
    cases hr : readF (t :: r) with
    | none =>
      rw [hr] at hf
      exact .inl ⟨hf, h.none hk hc hr⟩
    | some y =>
      obtain ⟨k, xs⟩ := y
      rw [hr] at hf
      obtain ⟨rfl, rfl, hm⟩ := hf
      refine .inr ⟨R', E.l, by simp; omega, hm, h.next hk hc hl hR hr ?_⟩
      unfold followsB
      split
      · simp; omega
      · rfl
  · refine .inr ⟨decide_eq_false h19, ?_⟩
    have hf := ins_line hk hs R' r hc
    rw [List.cons_append] at hf
    cases hr : readF (t :: r) with
    | none =>
      rw [hr] at hf
      exact .inl ⟨hf, h.none hk hc hr⟩
    | some y =>
      obtain ⟨k, xs⟩ := y
      rw [hr] at hf
      simp only at hf
      have hkk : k = kindOf t.s := by
        rw [readF_cons] at hr
        split at hr
        · simp at hr
        · cases hg : opsG (max 0 (2 * opsOf (kindOf t.s) - 1)) r with
          | none => rw [hg] at hr; simp at hr
          | some ys => rw [hg] at hr; simp at hr; exact hr.1.symm
      by_cases h15 : k ≤ 15
      · rw [if_pos h15] at hf
        by_cases h4 : all.length = 3
        · refine .inr (.inl ⟨fs_three h.oks h4, h.wrong hk hc hr ?_⟩)
          unfold followsB
          rw [if_pos (by omega)]
          simp
          omega
        · refine .inr (.inr ⟨R', k, xs, E.l, by simp; omega, fs_more h.oks (by omega), h15, hf.1, hf.2, h.next hk hc hl hR hr ?_⟩)
          unfold followsB
          rw [if_neg (by omega)]
          simp [h15]
      · rw [if_neg h15] at hf
        refine .inl ⟨hf, h.wrong hk hc hr ?_⟩
        unfold followsB
        have := kindOf_le t.s
        split
        · simp; omega
        · simp; omega
theorem RI.done (h : RI T [] all last) (h3 : 3 ≤ all.length) : stmF [] [] 0 T = .inr all := by
  rw [h.eq]
  unfold stmF
  rw [if_neg (by omega)]
theorem outF_snoc : ∀ (all : List Sm) (s : Sm), (∀ u ∈ all, 1 ≤ u.l) → outF (all ++ [s]) = offI (outF all) s.l (rangeB s)
  | [], s, _ => by
    simp only [List.nil_append, outF, offI]
    cases rangeB s <;> simp
  | a :: all, s, h => by
    have ih := outF_snoc all s fun u hu => h u (by simp [hu])
    have ha := h a (by simp)
    simp only [List.cons_append, outF]
    by_cases hr : rangeB a = true
    · rw [if_pos hr, if_pos hr, ih]
    · rw [if_neg hr, if_neg hr]
      unfold offI
      rw [if_neg (by omega)]
end
def bigL (fs : List (List In)) : Bool := fs.any fun f => decide (40 < f.length)
theorem bigB_eq (fs : List (List In)) : bigB fs = (bigL fs || decide (12 < fs.length)) := by unfold bigB bigL; rw [Bool.or_comm]
theorem bigL_new (fs : List (List In)) : bigL (fs ++ [[]]) = bigL fs := by simp [bigL]
theorem bigL_push (F : List (List In)) (f : List In) (i : In) : bigL (F ++ [f ++ [i]]) = (bigL (F ++ [f]) || decide (40 < f.length + 1)) := by
  have e : decide (40 < (f ++ [i]).length) = (decide (40 < f.length) || decide (40 < f.length + 1)) := by
    rw [Bool.eq_iff_iff]
    simp
    omega
  unfold bigL
  rw [List.any_append, List.any_append, Bool.or_assoc]
  simp only [List.any_cons, List.any_nil, Bool.or_false]
  rw [e]
end Go.Proofs.YtnhogbgnnnniaaaDoor
namespace Go.Proofs.YtnhogbgnnnniaaaDoor
open Go.RowKit L3
open C2 (In Pr bigB shapeI inB)

/-- the reader in the block r; its tokens lie in the world w0, below it -/
structure PAt (w0 w : World) (r : Nat) (ta : Option Addr) (tc : Nat) (T : List Tk) (o : Option (List Tk)) (off : Int) : Prop where
  far : w0.heap.size ≤ r
  low : Below w0.heap.size w0 w
  toks : SlT w0 (.slice ta T.length tc) T
  box : ∃ (I : Nat) (bad : Bool), w.heap[r]? = some (.cells #[.slice ta T.length tc, .int .i64 I, .bool bad, .int .i64 off] 60 (0, 0)) ∧ I ≤ T.length ∧ o = if bad = true then none else some (T.drop I)
/-- nothing that lay there but the block r is turned -/
structure Ow (r : Nat) (w w' : World) : Prop where
  os : w'.os = w.os
  tape : w'.tape = w.tape
  output : w'.output = w.output
  size : w.heap.size ≤ w'.heap.size
  block : ∀ k, k < w.heap.size → k ≠ r → w'.heap[k]? = w.heap[k]?
theorem Ow.refl (r : Nat) (w : World) : Ow r w w := ⟨rfl, rfl, rfl, Nat.le_refl _, fun _ _ _ => rfl⟩
theorem Ow.trans {r : Nat} {a b c : World} (h : Ow r a b) (k : Ow r b c) : Ow r a c := ⟨k.os.trans h.os, k.tape.trans h.tape, k.output.trans h.output, Nat.le_trans h.size k.size, fun i hi hr => (k.block i (Nat.lt_of_lt_of_le hi h.size) hr).trans (h.block i hi hr)⟩
theorem Ow.set {r : Nat} (w : World) (f : Nat) (v : Value) : Ow r w (w.setCell ⟨r, f, none⟩ v) := ⟨rfl, rfl, rfl, by simp [World.setCell], fun k _ hk => Below.heap_setCell _ _ _ _ hk⟩
theorem Ow.of_below {r : Nat} {w w' : World} (h : Below w.heap.size w w') : Ow r w w' := ⟨h.os, h.tape, h.output, h.size, fun k hk _ => h.block k hk⟩
theorem Ow.below {r : Nat} {w w' : World} (h : Ow r w w') {B : Nat} (hr : B ≤ r) (hs : B ≤ w.heap.size) : Below B w w' := ⟨h.os, h.tape, h.output, h.size, fun k hk => h.block k (by omega) (by omega)⟩
section
variable {w0 w w' : World} {r : Nat} {ta : Option Addr} {tc : Nat} {T : List Tk} {o : Option (List Tk)} {off : Int}
theorem PAt.kept (h : PAt w0 w r ta tc T o off) (hb : Below w.heap.size w w') : PAt w0 w' r ta tc T o off := by
  obtain ⟨I, bad, h1, h2, h3⟩ := h.box
  exact ⟨h.far, h.low.trans (hb.mono h.low.size), h.toks, I, bad, (hb.block _ (lt_of_block h1)).trans h1, h2, h3⟩
theorem PAt.lt (h : PAt w0 w r ta tc T o off) : r < w.heap.size := by
  obtain ⟨I, bad, h1, -⟩ := h.box
  exact lt_of_block h1
theorem p_cells {a b c d : Value} (h : w.heap[r]? = some (.cells #[a, b, c, d] 60 (0, 0))) : w.cell? ⟨r, 0, none⟩ = some a ∧ w.cell? ⟨r, 1, none⟩ = some b ∧ w.cell? ⟨r, 2, none⟩ = some c ∧ w.cell? ⟨r, 3, none⟩ = some d :=
  ⟨by simp [cell_of_row _ _ _ _ _ _ h], by simp [cell_of_row _ _ _ _ _ _ h], by simp [cell_of_row _ _ _ _ _ _ h], by simp [cell_of_row _ _ _ _ _ _ h]⟩
end
def IsPost (b : Bool) (w : World) (e : Ending) (w' : World) : Prop := e = .returned (.bool b) ∧ Below w.heap.size w w'
set_option maxHeartbeats 1000000 in
theorem is_any {w0 w : World} {r : Nat} {ta : Option Addr} {tc : Nat} {T : List Tk} {o : Option (List Tk)} {off : Int} (h : PAt w0 w r ta tc T o off) (k : Int) (x : List UInt8) (S : ByteArray) (hS : S = strB x) :
    Calls Tryd.prog 33 #[.pointer (some ⟨r, 0, none⟩), .int .i64 k, .string S] w fun e w' => IsPost (isO k x o) w e w' := by
  obtain ⟨I, bad, hbox, hI, ho⟩ := h.box
  obtain ⟨c0, c1, c2, c3⟩ := p_cells hbox
  have hT := h.toks.kept h.low
  cases bad with
  | true =>
    obtain rfl : o = none := by simpa using ho
    have e : isO k x none = false := rfl
    rw [e]
    clear ho hbox h
    go_enter Tryd.func33, Tryd.ntmps33
    go_wp2_with fail
    go_quiet (fail)
    go_wp2_with fail
    go_ret
    exact ⟨rfl, ⟨rfl, rfl, rfl, Nat.le_refl _, fun _ _ => rfl⟩⟩
  | false =>
    obtain rfl : o = some (T.drop I) := by simpa using ho
    by_cases hlt : I < T.length
    · obtain ⟨g, f, rfl, ⟨t0, t1, t2, t3⟩⟩ := hT.at hlt
      have hd : decide ((I : Int) < (T.length : Int)) = true := by simp; omega
      rw [List.drop_eq_getElem_cons hlt]
      simp only [isO]
      generalize T[I] = t at *
      by_cases hk : t.k = k
      · have ek : (t.k == k) = true := by simp [hk]
        by_cases hs : t.s = x
        · subst hs
          have es : (S.toList == S.toList) = true := by simp
          rw [← hS] at t1
          rw [decide_eq_true hk, decide_eq_true rfl, Bool.true_and]
          clear ho hbox h hT hS
          go_enter Tryd.func33, Tryd.ntmps33
          go_wp2_with fail
          go_quiet (fail)
          go_wp2_with fail
          go_ret
          exact ⟨rfl, ⟨rfl, rfl, rfl, Nat.le_refl _, fun _ _ => rfl⟩⟩
        · obtain ⟨S2, hS2⟩ : ∃ S2, S2 = strB t.s := ⟨_, rfl⟩
          have es : (S2.toList == S.toList) = false := by rw [hS2, hS]; simp [ByteArray.toList_eq, strB, hs]
          rw [← hS2] at t1
          rw [decide_eq_true hk, decide_eq_false hs, Bool.true_and]
          clear ho hbox h hT hS2 hS
          go_enter Tryd.func33, Tryd.ntmps33
          go_wp2_with fail
          go_quiet (fail)
          go_wp2_with fail
          go_ret
          exact ⟨rfl, ⟨rfl, rfl, rfl, Nat.le_refl _, fun _ _ => rfl⟩⟩
      · have ek : (t.k == k) = false := by simp [hk]
        rw [decide_eq_false hk, Bool.false_and]
        clear ho hbox h hT
        go_enter Tryd.func33, Tryd.ntmps33
        go_wp2_with fail
        go_quiet (fail)
        go_wp2_with fail
        go_ret
        exact ⟨rfl, ⟨rfl, rfl, rfl, Nat.le_refl _, fun _ _ => rfl⟩⟩
    · have hd : decide ((I : Int) < (T.length : Int)) = false := by simp; omega
      rw [List.drop_eq_nil_of_le (by omega)]
      have e : isO k x (some []) = false := rfl
      rw [e]
      clear ho hbox h hT
      go_enter Tryd.func33, Tryd.ntmps33
      go_wp2_with fail
      go_quiet (fail)
      go_wp2_with fail
      go_ret
      exact ⟨rfl, ⟨rfl, rfl, rfl, Nat.le_refl _, fun _ _ => rfl⟩⟩
end Go.Proofs.YtnhogbgnnnniaaaDoor
namespace Go.Proofs.YtnhogbgnnnniaaaDoor
open Go.RowKit L3
open C2 (In Pr bigB shapeI inB)

section
variable {w0 w w' : World} {r : Nat} {ta : Option Addr} {tc : Nat} {T : List Tk} {o : Option (List Tk)} {off : Int}
theorem p_set {a b c d : Value} (h : PAt w0 w r ta tc T o off) (f : Nat) (v : Value) {I : Nat} {bad : Bool} {off' : Int} (hb : w.heap[r]? = some (.cells #[a, b, c, d] 60 (0, 0))) (hs : (#[a, b, c, d] : Array Value).setIfInBounds f v = #[.slice ta T.length tc, .int .i64 I, .bool bad, .int .i64 off']) (hI : I ≤ T.length) : PAt w0 (w.setCell ⟨r, f, none⟩ v) r ta tc T (if bad = true then none else some (T.drop I)) off' ∧ Ow r w (w.setCell ⟨r, f, none⟩ v) :=
  ⟨⟨h.far, h.low.trans ((Ow.set (r := r) w f v).below h.far h.low.size), h.toks, I, bad, by rw [heap_setCell_same _ _ _ _ _ _ hb, hs], hI, rfl⟩, Ow.set w f v⟩
end
def StPost (w0 : World) (r : Nat) (ta : Option Addr) (tc : Nat) (T : List Tk) (o : Option (List Tk)) (off : Int) (v : Value) (w : World) (e : Ending) (w' : World) : Prop := e = .returned v ∧ PAt w0 w' r ta tc T o off ∧ Ow r w w'
theorem num_noV {t : Tk} (h : t.k ≠ 2) (R : List Tk) : numV (some (t :: R)) = 0 := by simp [numV, numB, h]
theorem isO_some {k : Int} {x : List UInt8} {o : Option (List Tk)} (h : isO k x o = true) : ∃ t R, o = some (t :: R) := by
  cases o with
  | none => simp [isO] at h
  | some l => cases l with
    | nil => simp [isO] at h
    | cons t R => exact ⟨t, R, rfl⟩
theorem must_any {w0 w : World} {r : Nat} {ta : Option Addr} {tc : Nat} {T : List Tk} {o : Option (List Tk)} {off : Int} (h : PAt w0 w r ta tc T o off) (hn : T.length ≤ 20000) (k : Int) (x : List UInt8) (S : ByteArray) (hS : S = strB x) :
    Calls Tryd.prog 34 #[.pointer (some ⟨r, 0, none⟩), .int .i64 k, .string S] w fun e w' => StPost w0 r ta tc T (mustO k x o) off (.tuple #[]) w e w' := by
  have his := is_any h k x S hS
  clear hS
  cases hb2 : isO k x o with
  | false =>
    rw [hb2] at his
    have em : mustO k x o = none := by unfold mustO; rw [hb2]; rfl
    rw [em]
    clear hb2 em
    go_enter Tryd.func34, Tryd.ntmps34
    go_wp2_with fail
    refine his.mono ?_
    rintro e w1 ⟨rfl, hb⟩
    have h1 := h.kept hb
    obtain ⟨I, bad, hbox, hI, ho⟩ := h1.box
    obtain ⟨c0, c1, c2, c3⟩ := p_cells hbox
    have f2 := frozen_of_row _ _ 2 _ _ hbox
    obtain ⟨hP, hO⟩ := p_set h1 2 (.bool true) (bad := true) hbox rfl hI
    have hP2 : Hid (StPost w0 r ta tc T none off (.tuple #[]) w (.returned (.tuple #[])) (w1.setCell ⟨r, 2, none⟩ (.bool true))) := ⟨rfl, hP, (Ow.of_below hb).trans hO⟩
    clear hP hO ho hbox h1 his
    go_wp2_with fail
    exact bodyPost_ret (v := .tuple #[]) (by simp [results, Tryd.results34, go_sem]) rfl hP2.out
  | true =>
    rw [hb2] at his
    have em : mustO k x o = o.map List.tail := by unfold mustO; rw [hb2]; rfl
    rw [em]
    obtain ⟨t, R, hoe⟩ := isO_some hb2
    clear hb2 em
    go_enter Tryd.func34, Tryd.ntmps34
    go_wp2_with fail
    refine his.mono ?_
    rintro e w1 ⟨rfl, hb⟩
    have h1 := h.kept hb
    obtain ⟨I, bad, hbox, hI, ho⟩ := h1.box
    obtain ⟨c0, c1, c2, c3⟩ := p_cells hbox
    have f1 := frozen_of_row _ _ 1 _ _ hbox
    have hbad : bad = false := by
      cases bad with
      | true => rw [hoe] at ho; simp at ho
      | false => rfl
    subst hbad
    have hd : t :: R = T.drop I := by rw [hoe] at ho; simpa using ho
    have hlt : I < T.length := by
      by_cases hh : I < T.length
      · exact hh
      · rw [List.drop_eq_nil_of_le (by omega)] at hd; simp at hd
    obtain ⟨hP, hO⟩ := p_set h1 1 (.int .i64 ((I : Int) + 1)) (I := I + 1) (bad := false) (off' := off) hbox (by simp) (by omega)
    have e : o.map List.tail = if false = true then none else some (T.drop (I + 1)) := by
      rw [hoe]
      rw [List.drop_eq_getElem_cons hlt] at hd
      have h2 := (List.cons.inj hd).2
      simp [h2]
    have hP2 : Hid (StPost w0 r ta tc T (o.map List.tail) off (.tuple #[]) w (.returned (.tuple #[])) (w1.setCell ⟨r, 1, none⟩ (.int .i64 ((I : Int) + 1)))) := ⟨rfl, by rw [e]; exact hP, (Ow.of_below hb).trans hO⟩
    clear hP hO ho hbox h1 e hd hoe his
    go_wp2_with fail
    exact bodyPost_end (v := .tuple #[]) (by simp [results, Tryd.results34, go_sem]) rfl hP2.out
set_option maxHeartbeats 1000000 in
theorem numberR_any {w0 w : World} {r : Nat} {ta : Option Addr} {tc : Nat} {T : List Tk} {o : Option (List Tk)} {off : Int} (h : PAt w0 w r ta tc T o off) (hn : T.length ≤ 20000) :
    Calls Tryd.prog 68 #[.pointer (some ⟨r, 0, none⟩)] w fun e w' => StPost w0 r ta tc T (numO o) off (.int .i64 (numV o)) w e w' := by
  obtain ⟨I, bad, hbox, hI, ho⟩ := h.box
  obtain ⟨c0, c1, c2, c3⟩ := p_cells hbox
  have hT := h.toks.kept h.low
  have hbad := fun (u : World) (hb : Below w.heap.size w u) => p_set (h.kept hb) 2 (.bool true) (bad := true) ((hb.block _ (lt_of_block hbox)).trans hbox) rfl hI
  have HB : Hid (∀ (u : World), Below w.heap.size w u → PAt w0 (u.setCell ⟨r, 2, none⟩ (.bool true)) r ta tc T none off ∧ Ow r w (u.setCell ⟨r, 2, none⟩ (.bool true))) := fun u hb => ⟨(hbad u hb).1, (Ow.of_below hb).trans (hbad u hb).2⟩
  have f1 := frozen_of_row _ _ 1 _ _ hbox
  have f2 := frozen_of_row _ _ 2 _ _ hbox
  clear hbad
  cases bad with
  | true =>
    obtain rfl : o = none := by simpa using ho
    rw [numO_none, show numV none = 0 from rfl]
    clear ho hbox h
    go_enter Tryd.func68, Tryd.ntmps68
    go_wp2_with fail
    go_quiet (fail)
    go_wp2_with fail
    go_ret
    have := HB.out (w.drewN nq) ⟨rfl, rfl, rfl, Nat.le_refl _, fun _ _ => rfl⟩
    exact ⟨rfl, this.1, this.2⟩
  | false =>
    obtain rfl : o = some (T.drop I) := by simpa using ho
    by_cases hlt : I < T.length
    · obtain ⟨g, f, rfl, ⟨t0, t1, t2, t3⟩⟩ := hT.at hlt
      have hd : decide ((T.length : Int) ≤ (I : Int)) = false := by simp; omega
      have hgo := fun (u : World) (hb : Below w.heap.size w u) => p_set (h.kept hb) 1 (.int .i64 ((I : Int) + 1)) (I := I + 1) (bad := false) (off' := off) ((hb.block _ (lt_of_block hbox)).trans hbox) (by simp) (by omega)
      have hlg := block_lt_of_cell t0
      have hgr : g ≠ r := fun e => by
        obtain ⟨g', f', e', hh⟩ := h.toks.at hlt
        have h1 := block_lt_of_cell hh.k
        have h2 := h.far
        simp at e' h1
        omega
      rw [List.drop_eq_getElem_cons hlt]
      generalize T[I] = t at *
      have HG : Hid (∀ (u : World), Below w.heap.size w u → PAt w0 (u.setCell ⟨r, 1, none⟩ (.int .i64 ((I : Int) + 1))) r (some ⟨g, f, none⟩) tc T (some (T.drop (I + 1))) off ∧ Ow r w (u.setCell ⟨r, 1, none⟩ (.int .i64 ((I : Int) + 1)))) := fun u hb => ⟨(hgo u hb).1, (Ow.of_below hb).trans (hgo u hb).2⟩
      clear hgo
      by_cases hk : t.k = 2
      · have ek : (t.k != 2) = false := by simp [hk]
        have HBX : Hid (w.heap[r]? = some (.cells #[.slice (some ⟨g, f, none⟩) T.length tc, .int .i64 I, .bool false, .int .i64 off] 60 (0, 0))) := hbox
        rw [(num_yes hk _).1, (num_yes hk _).2]
        clear ho hbox h hT hk
        go_enter Tryd.func68, Tryd.ntmps68
        go_wp2_with fail
        go_quiet (fail)
        go_wp2_with fail
        obtain ⟨hP, hO⟩ := HG.out (w.drewN nq) ⟨rfl, rfl, rfl, Nat.le_refl _, fun _ _ => rfl⟩
        have hb1 := heap_setCell_same (w.drewN nq) r 1 _ _ (.int .i64 ((I : Int) + 1)) HBX.out
        obtain ⟨d0, d1, d2, d3⟩ := p_cells (a := .slice (some ⟨g, f, none⟩) T.length tc) (b := .int .i64 ((I : Int) + 1)) (c := .bool false) (d := .int .i64 off) (by rw [hb1]; simp)
        have u2 : ((w.drewN nq).setCell ⟨r, 1, none⟩ (.int .i64 ((I : Int) + 1))).cell? ⟨g, f + I * 4 + 2, none⟩ = some (.int .i64 t.n) := by
          rw [World.cell?_of_block (Below.heap_setCell _ _ _ _ hgr)]
          exact t2
        obtain ⟨W, hW⟩ : ∃ W, (w.drewN nq).setCell ⟨r, 1, none⟩ (.int .i64 ((I : Int) + 1)) = W := ⟨_, rfl⟩
        rw [hW] at hP hO d0 d1 u2 ⊢
        have hsub : ((I : Int) + 1 - 1) = (I : Int) := by omega
        have HPO : Hid (PAt w0 W r (some ⟨g, f, none⟩) tc T (some (T.drop (I + 1))) off ∧ Ow r w W) := ⟨hP, hO⟩
        clear HG HB HBX hb1 d2 d3 t0 t1 t2 t3 c0 c1 c2 c3 f1 f2 hW hP hO
        go_quiet (fail)
        go_wp2_with fail
        go_ret
        exact ⟨rfl, HPO.out.1.kept ⟨rfl, rfl, rfl, Nat.le_refl _, fun _ _ => rfl⟩, HPO.out.2.trans (Ow.of_below ⟨rfl, rfl, rfl, Nat.le_refl _, fun _ _ => rfl⟩)⟩
      · have ek : (t.k != 2) = true := by simp [hk]
        rw [num_no hk, num_noV hk]
        clear ho hbox h hT HG
        go_enter Tryd.func68, Tryd.ntmps68
        go_wp2_with fail
        go_quiet (fail)
        go_wp2_with fail
        go_ret
        have := HB.out (w.drewN nq) ⟨rfl, rfl, rfl, Nat.le_refl _, fun _ _ => rfl⟩
        exact ⟨rfl, this.1, this.2⟩
    · have hd : decide ((T.length : Int) ≤ (I : Int)) = true := by simp; omega
      rw [List.drop_eq_nil_of_le (by omega)]
      rw [show numO (some []) = none from rfl, show numV (some []) = 0 from rfl]
      clear ho hbox h hT
      go_enter Tryd.func68, Tryd.ntmps68
      go_wp2_with fail
      go_quiet (fail)
      go_wp2_with fail
      go_ret
      have := HB.out (w.drewN nq) ⟨rfl, rfl, rfl, Nat.le_refl _, fun _ _ => rfl⟩
      exact ⟨rfl, this.1, this.2⟩
theorem off_any {w0 w : World} {r : Nat} {ta : Option Addr} {tc : Nat} {T : List Tk} {o : Option (List Tk)} {off : Int} (h : PAt w0 w r ta tc T o off) (l : Int) (ok : Bool) :
    Calls Tryd.prog 36 #[.pointer (some ⟨r, 0, none⟩), .int .i64 l, .bool ok] w fun e w' => StPost w0 r ta tc T o (offI off l ok) (.tuple #[]) w e w' := by
  obtain ⟨I, bad, hbox, hI, ho⟩ := h.box
  obtain ⟨c0, c1, c2, c3⟩ := p_cells hbox
  have f3 := frozen_of_row _ _ 3 _ _ hbox
  obtain ⟨hP, hO⟩ := p_set h 3 (.int .i64 l) (I := I) (bad := bad) (off' := l) hbox (by simp) hI
  rw [← ho] at hP
  have HP : Hid (PAt w0 (w.setCell ⟨r, 3, none⟩ (.int .i64 l)) r ta tc T o l ∧ Ow r w (w.setCell ⟨r, 3, none⟩ (.int .i64 l))) := ⟨hP, hO⟩
  have H0 : Hid (PAt w0 w r ta tc T o off) := h
  unfold offI
  clear hP hO ho hbox h
  cases ok with
  | true =>
    rw [if_neg (by simp)]
    go_enter Tryd.func36, Tryd.ntmps36
    go_wp2_with fail
    exact bodyPost_end (v := .tuple #[]) (by simp [results, Tryd.results36, go_sem]) rfl ⟨rfl, H0.out, Ow.refl _ _⟩
  | false =>
    by_cases h0 : off = 0
    · rw [if_pos ⟨rfl, h0⟩]
      have e0 : (off == 0) = true := by simp [h0]
      clear h0
      go_enter Tryd.func36, Tryd.ntmps36
      go_wp2_with fail
      exact bodyPost_end (v := .tuple #[]) (by simp [results, Tryd.results36, go_sem]) rfl ⟨rfl, HP.out.1, HP.out.2⟩
    · rw [if_neg (by simp [h0])]
      have e0 : (off == 0) = false := by simp [h0]
      go_enter Tryd.func36, Tryd.ntmps36
      go_wp2_with fail
      exact bodyPost_end (v := .tuple #[]) (by simp [results, Tryd.results36, go_sem]) rfl ⟨rfl, H0.out, Ow.refl _ _⟩
end Go.Proofs.YtnhogbgnnnniaaaDoor
namespace Go.Proofs.YtnhogbgnnnniaaaDoor
open Go.RowKit L3
open C2 (In Pr bigB shapeI inB)

def LnPost (l : Int) (w : World) (e : Ending) (w' : World) : Prop := e = .returned (.int .i64 l) ∧ Below w.heap.size w w'
theorem line_any {w0 w : World} {r : Nat} {ta : Option Addr} {tc : Nat} {T R : List Tk} {off : Int} (h : PAt w0 w r ta tc T (some R) off) (hn : T.length ≤ 20000) (hl : ∀ t ∈ T, 1 ≤ t.l ∧ t.l ≤ 9000) :
    Calls Tryd.prog 32 #[.pointer (some ⟨r, 0, none⟩)] w fun e w' => LnPost (lineO T R) w e w' := by
  obtain ⟨I, bad, hbox, hI, ho⟩ := h.box
  obtain ⟨c0, c1, c2, c3⟩ := p_cells hbox
  have hT := h.toks.kept h.low
  have hbad : bad = false := by
    cases bad with
    | true => simp at ho
    | false => rfl
  subst hbad
  obtain rfl : R = T.drop I := by simpa using ho
  by_cases hlt : I < T.length
  · obtain ⟨g, f, rfl, ⟨t0, t1, t2, t3⟩⟩ := hT.at hlt
    have hd : decide ((I : Int) < (T.length : Int)) = true := by simp; omega
    rw [List.drop_eq_getElem_cons hlt]
    simp only [lineO]
    generalize T[I] = t at *
    clear ho hbox h hT
    go_enter Tryd.func32, Tryd.ntmps32
    go_wp2_with fail
    go_quiet (fail)
    go_wp2_with fail
    obtain ⟨W, hW⟩ : ∃ W, w.drewN nq = W := ⟨_, rfl⟩
    have hb : Below w.heap.size w W := by rw [← hW]; exact ⟨rfl, rfl, rfl, Nat.le_refl _, fun _ _ => rfl⟩
    have d0 := C2.still_of_below hb _ _ c0
    have d1 := C2.still_of_below hb _ _ c1
    have d3 := C2.still_of_below hb _ _ t3
    rw [hW]
    clear hW c0 c1 c2 c3 t0 t1 t2 t3
    go_quiet (fail)
    go_wp2_with fail
    go_ret
    exact ⟨rfl, ⟨hb.os, hb.tape, hb.output, hb.size, hb.block⟩⟩
  · have hd : decide ((I : Int) < (T.length : Int)) = false := by simp; omega
    rw [List.drop_eq_nil_of_le (by omega)]
    have hln : lineO T [] = match T.getLast? with | some t => t.l + 1 | none => 1 := rfl
    rw [hln]
    rcases List.eq_nil_or_concat T with rfl | ⟨T', t, hcat⟩
    · have hd0 : ((([] : List Tk).length : Int) == 0) = true := by simp
      clear ho hbox h hT
      go_enter Tryd.func32, Tryd.ntmps32
      go_wp2_with fail
      go_quiet (fail)
      go_wp2_with fail
      go_ret
      exact ⟨rfl, ⟨rfl, rfl, rfl, Nat.le_refl _, fun _ _ => rfl⟩⟩
    · rw [List.concat_eq_append] at hcat
      subst hcat
      have hlen : (T' ++ [t]).length = T'.length + 1 := by simp
      obtain ⟨g, f, rfl, ⟨t0, t1, t2, t3⟩⟩ := hT.at (k := T'.length) (by simp)
      have hge : (T' ++ [t])[T'.length]'(by simp) = t := by simp
      rw [hge] at t3
      have hlt2 := hl t (by simp)
      have hI2 : T'.length + 1 ≤ I := by simp at hlt; omega
      rw [show (T' ++ [t]).getLast? = some t by simp]
      simp only
      rw [hlen] at c0 hd hI hn
      have hd0 : (((T'.length + 1 : Nat) : Int) == 0) = false := by simp only [beq_eq_false_iff_ne, ne_eq]; omega
      have hsub : ((T'.length : Int) + 1 - 1) = (T'.length : Int) := by omega
      have hlt1 : (T'.length : Int) < (T'.length : Int) + 1 := by omega
      clear ho hbox h hT t0 t1 t2 hl hge
      go_enter Tryd.func32, Tryd.ntmps32
      go_wp2_with fail
      go_quiet (fail)
      go_wp2_with fail
      obtain ⟨W, hW⟩ : ∃ W, w.drewN nq = W := ⟨_, rfl⟩
      have hb : Below w.heap.size w W := by rw [← hW]; exact ⟨rfl, rfl, rfl, Nat.le_refl _, fun _ _ => rfl⟩
      have d0 := C2.still_of_below hb _ _ c0
      have d3 := C2.still_of_below hb _ _ t3
      rw [hW]
      clear hW c0 c1 c2 c3 t3
      go_quiet (fail)
      go_wp2_with fail
      go_ret
      exact ⟨rfl, ⟨hb.os, hb.tape, hb.output, hb.size, hb.block⟩⟩
def FsPost (w0 : World) (r : Nat) (ta : Option Addr) (tc : Nat) (T : List Tk) (o : Option (List Tk)) (off : Int) (n l : Int) (w : World) (e : Ending) (w' : World) : Prop := e = .returned (.tuple #[.int .i64 n, .int .i64 l]) ∧ PAt w0 w' r ta tc T o off ∧ Ow r w w'
theorem firstR_any {w0 w : World} {r : Nat} {ta : Option Addr} {tc : Nat} {T R : List Tk} {off : Int} (h : PAt w0 w r ta tc T (some R) off) (hn : T.length ≤ 20000) (hl : ∀ t ∈ T, 1 ≤ t.l ∧ t.l ≤ 9000) (x : List UInt8) (S : ByteArray) (hS : S = strB x) (lo hi : Int) :
    Calls Tryd.prog 31 #[.pointer (some ⟨r, 0, none⟩), .string S, .int .i64 lo, .int .i64 hi] w fun e w' => FsPost w0 r ta tc T (firstO x (some R)) (offI off (lineO T R) (inB (firstV x (some R)) lo hi)) (firstV x (some R)) (lineO T R) w e w' := by
  have hln := line_any h hn hl
  have HM : Hid (∀ w', PAt w0 w' r ta tc T (some R) off → Calls Tryd.prog 34 #[.pointer (some ⟨r, 0, none⟩), .int .i64 1, .string S] w' fun e w'' => StPost w0 r ta tc T (mustO 1 x (some R)) off (.tuple #[]) w' e w'') := fun w' h => must_any h hn 1 x S hS
  have HE : Hid (∀ w' o, PAt w0 w' r ta tc T o off → Calls Tryd.prog 34 #[.pointer (some ⟨r, 0, none⟩), .int .i64 4, .string ⟨#[]⟩] w' fun e w'' => StPost w0 r ta tc T (mustO 4 [] o) off (.tuple #[]) w' e w'') := fun w' o h => must_any h hn 4 [] ⟨#[]⟩ rfl
  have HNM : Hid (∀ w', PAt w0 w' r ta tc T (mustO 1 x (some R)) off → Calls Tryd.prog 68 #[.pointer (some ⟨r, 0, none⟩)] w' fun e w'' => StPost w0 r ta tc T (numO (mustO 1 x (some R))) off (.int .i64 (numV (mustO 1 x (some R)))) w' e w'') := fun w' h => numberR_any h hn
  unfold firstO firstV
  clear hS
  generalize lineO T R = L at *
  generalize numV (mustO 1 x (some R)) = n at *
  obtain ⟨b, hb⟩ : ∃ b, inB n lo hi = b := ⟨_, rfl⟩
  have e1 : decide (lo ≤ n) = true → decide (n ≤ hi) = b := fun h => by rw [← hb]; unfold inB; rw [h, Bool.true_and]
  have e2 : decide (lo ≤ n) = false → b = false := fun h => by rw [← hb]; unfold inB; rw [h, Bool.false_and]
  rw [hb]
  clear hb
  go_enter Tryd.func31, Tryd.ntmps31
  go_wp2_with fail
  refine hln.mono ?_
  rintro e w1 ⟨rfl, hb1⟩
  have h1 := h.kept hb1
  clear hln
  go_wp2_with fail
  refine (HM.out _ h1).mono ?_
  rintro e w2 ⟨rfl, h2, o2⟩
  have o2' := (Ow.of_below hb1).trans o2
  clear HM
  go_wp2_with fail
  refine (HNM.out _ h2).mono ?_
  rintro e w3 ⟨rfl, h3, o3⟩
  have o3' := o2'.trans o3
  clear HNM
  go_wp2_with fail
  refine (HE.out _ _ h3).mono ?_
  rintro e w4 ⟨rfl, h4, o4⟩
  have o4' := o3'.trans o4
  clear HE
  have hof := off_any h4 L b
  cases hlo : decide (lo ≤ n) with
  | true =>
    have e3 := e1 hlo
    clear e1 e2
    go_wp2_with fail
    refine hof.mono ?_
    rintro e w5 ⟨rfl, h5, o5⟩
    go_wp2_with fail
    exact bodyPost_ret (v := .tuple #[.int .i64 n, .int .i64 L]) (by simp [results, Tryd.results31, go_sem]) rfl ⟨rfl, h5, o4'.trans o5⟩
  | false =>
    obtain rfl := e2 hlo
    clear e1 e2
    go_wp2_with fail
    refine hof.mono ?_
    rintro e w5 ⟨rfl, h5, o5⟩
    go_wp2_with fail
    exact bodyPost_ret (v := .tuple #[.int .i64 n, .int .i64 L]) (by simp [results, Tryd.results31, go_sem]) rfl ⟨rfl, h5, o4'.trans o5⟩
end Go.Proofs.YtnhogbgnnnniaaaDoor
